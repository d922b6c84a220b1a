/- What ToIndex answers, the specification's and the program's: contracts. -/
import Derived.Test.YtgfnejojjjlloaaOrder
namespace Go.Proofs.Ytgfnejojjjlloaa
open Go.RowKit
open Fl

/-- whether a number is an index below m -/
def tiB (s : Bool) (r : Nat) (m : Int) : Bool := decide (1 ≤ m ∧ m ≤ 1000 ∧ r < 9218868437227405312 ∧ (s = false ∨ r = 0) ∧ val r < m.toNat * 2 ^ E) && whole r
def tiN (s : Bool) (r : Nat) (m : Int) : Int := if tiB s r m = true then ((val r / 2 ^ E : Nat) : Int) else 0

set_option maxHeartbeats 400000 in
theorem l1in_any (n lo hi : Int) (w : World) :
    Calls Try.prog 50 #[.int .i64 n, .int .i64 lo, .int .i64 hi] w fun e w' => e = .returned (.bool (decide (lo ≤ n ∧ n ≤ hi))) ∧ w' = w := by
  by_cases h1 : lo ≤ n <;> by_cases h2 : n ≤ hi
  all_goals
    go_enter Try.func50, Try.ntmps50
    go_wp2
    go_ret
    refine ⟨?_, rfl⟩
    simp [h1, h2]

/-- float64(m) for a small m -/
theorem ofSmall (m : Int) (h1 : 1 ≤ m) (h2 : m ≤ 1000) : ∃ q, q < 9218868437227405312 ∧ val q = m.toNat * 2 ^ E ∧ floatOfInt .f64 m = wd false q := by
  obtain ⟨q, hq, hv, hn⟩ := ofInt m.toNat false (by omega)
  refine ⟨q, hq, hv, ?_⟩
  rw [← hn]
  show Ieee.double.nearest _ _ _ = _
  rw [decide_eq_false (by omega), show m.natAbs = m.toNat by omega]

theorem tiN_false {s : Bool} {r : Nat} {m : Int} (h : tiB s r m = false) : tiN s r m = 0 := by unfold tiN; rw [h]; simp

theorem val_below (s : Bool) (r qm : Nat) (m : Int) (hs : s = false ∨ r = 0) (h : sr s r < sr false qm) (hv : val qm = m.toNat * 2 ^ E) : val r < m.toNat * 2 ^ E := by
  rw [← hv]
  refine val_mono ?_
  rcases hs with h1 | h1
  · subst h1; simp [sr] at h; exact h
  · subst h1; cases s <;> simp [sr] at h <;> omega
theorem val_above (s : Bool) (r qm : Nat) (m : Int) (hs : s = false ∨ r = 0) (h : ¬ sr s r < sr false qm) (hv : val qm = m.toNat * 2 ^ E) : ¬ val r < m.toNat * 2 ^ E := by
  rw [← hv, val_lt_iff]
  rcases hs with h1 | h1
  · subst h1; simp [sr] at h; omega
  · subst h1; cases s <;> simp [sr] at h <;> omega
theorem sg_of (s : Bool) (r : Nat) (hs : s = false ∨ r = 0) : sg s (val r / 2 ^ E) = ((val r / 2 ^ E : Nat) : Int) := by
  rcases hs with h1 | h1
  · subst h1; simp [sg]
  · subst h1; rw [val_zero, Nat.zero_div, sg_zero]; rfl
theorem back_ne (s : Bool) (r : Nat) (hr : r < 9218868437227405312) (hs : s = false ∨ r = 0) (hl : val r / 2 ^ E < 9007199254740992) :
    (FloatKind.f64.format.order (floatOfInt .f64 (sg s (val r / 2 ^ E))) (wd s r) != some Ordering.eq) = !whole r := by
  rcases Nat.eq_zero_or_pos r with h0 | h0
  · subst h0
    have e : floatOfInt .f64 (sg s (val 0 / 2 ^ E)) = wd false 0 := by
      rw [val_zero, Nat.zero_div, sg_zero]
      have e0 : floatOfInt .f64 0 = Ieee.double.nearest (decide ((0 : Int) < 0)) (Int.natAbs 0) 0 := rfl
      rw [e0]
      exact nearest_zero false 0
    rw [e, cmp_ne false s 0 0 (by omega) (by omega)]
    have : whole 0 = true := by unfold whole; rw [val_zero, Nat.zero_mod]; rfl
    rw [this]
    cases s <;> rfl
  · have h1 := back_eq s r (val r / 2 ^ E) hr h0 hl
    simp only [bne, h1, whole]
    by_cases hw : val r % 2 ^ E = 0
    · have : val r / 2 ^ E * 2 ^ E = val r := Nat.div_mul_cancel (Nat.dvd_of_mod_eq_zero hw)
      simp [hw, this]
    · have : ¬ val r / 2 ^ E * 2 ^ E = val r := fun h => hw (by rw [← h]; exact Nat.mul_mod_left _ _)
      simp [hw, this]

theorem cmp_ge (s t : Bool) (r q : Nat) (hr : r ≤ 9218868437227405312) (hq : q ≤ 9218868437227405312) :
    (FloatKind.f64.format.order (wd s r) (wd t q) == some Ordering.gt || FloatKind.f64.format.order (wd s r) (wd t q) == some Ordering.eq) = !decide (sr s r < sr t q) := by
  rw [cmp_gt s t r q hr hq, cmp_eq s t r q hr hq]
  rcases Int.lt_trichotomy (sr s r) (sr t q) with h | h | h
  · have h1 : ¬ sr t q < sr s r := by omega
    have h2 : ¬ sr s r = sr t q := by omega
    simp [h, h1, h2]
  · simp [h]
  · have h1 : ¬ sr s r < sr t q := by omega
    simp [h, h1]

end Go.Proofs.Ytgfnejojjjlloaa
