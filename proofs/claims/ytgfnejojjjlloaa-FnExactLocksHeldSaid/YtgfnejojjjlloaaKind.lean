/- What the functions on the kind, the sign and the order of a number answer, the specification's and the program's: contracts. -/
import Derived.Test.YtgfnejojjjlloaaParts
import Derived.Laws.Externs
import Derived.Laws.BitsAllLaws
import Derived.Deep.Draws
namespace Go.Proofs.Ytgfnejojjjlloaa
open Go.RowKit
open Fl

theorem z_false : (0 : Nat) = wd false 0 := rfl
theorem lt0 (s : Bool) (r : Nat) (hr : r ≤ 9218868437227405312) : (FloatKind.f64.format.order (wd s r) 0 == some Ordering.lt) = (s && decide (0 < r)) := by
  have := cmp_lt s false r 0 hr (by omega)
  rw [← z_false] at this
  rw [this]
  cases s <;> simp [sr] <;> omega
theorem eq0 (s : Bool) (r : Nat) (hr : r ≤ 9218868437227405312) : (FloatKind.f64.format.order (wd s r) 0 == some Ordering.eq) = decide (r = 0) := by
  have := cmp_eq s false r 0 hr (by omega)
  rw [← z_false] at this
  rw [this]
  cases s <;> simp [sr] <;> omega
theorem eqself (s : Bool) (r : Nat) (hr : r ≤ 9218868437227405312) : (FloatKind.f64.format.order (wd s r) (wd s r) == some Ordering.eq) = true := by
  rw [cmp_eq s s r r hr hr]; simp
theorem neself (s : Bool) (r : Nat) (hr : r < 9223372036854775808) : (FloatKind.f64.format.order (wd s r) (wd s r) != some Ordering.eq) = decide (9218868437227405312 < r) := by
  by_cases h : 9218868437227405312 < r
  · have := (cmp_nan s r .eq hr h (wd s r)).1
    simp only [bne, this, h, decide_true, Bool.not_false]
  · simp only [bne, eqself s r (by omega), h, decide_false, Bool.not_true]

theorem nan_word (t : Nat) : ∃ s r, r < 9223372036854775808 ∧ 9218868437227405312 < r ∧ (t % 2) * 2 ^ 63 + 0x7ff0000000000000 + 1 + (t / 2) % (2 ^ 52 - 1) = wd s r := by
  refine ⟨t % 2 == 1, 9218868437227405312 + 1 + (t / 2) % 4503599627370495, by omega, by omega, ?_⟩
  have h : t % 2 = 0 ∨ t % 2 = 1 := by omega
  rcases h with h | h
  · simp [h, wd]
  · simp only [h, wd, beq_self_eq_true, if_true]
    omega

/-- 0 NaN, 1 an infinity, 2 a zero, 3 whole, 4 else -/
def kindN (r : Nat) : Int := if 9218868437227405312 < r then 0 else if r = 9218868437227405312 then 1 else if r = 0 then 2 else if whole r then 3 else 4

theorem andNot_sign (s : Bool) (r : Nat) (hr : r < 9223372036854775808) : bits .andNot .u64 ((wd s r : Nat) : Int) 9223372036854775808 = (r : Int) := by
  have h := u64_andNot_nat (wd s r) 9223372036854775808 (wd_lt s r hr) (by omega)
  have e : ((9223372036854775808 : Nat) : Int) = 9223372036854775808 := rfl
  rw [e] at h
  rw [h]
  have hm : wd s r &&& (18446744073709551615 - 9223372036854775808) = r := by
    rw [show 18446744073709551615 - 9223372036854775808 = 2 ^ 63 - 1 by simp, Nat.and_two_pow_sub_one_eq_mod]
    cases s <;> simp [wd] <;> omega
  rw [hm]

theorem gt_max (r : Nat) (hr : r < 9223372036854775808) : (FloatKind.f64.format.order (wd false r) 9218868437227405311 == some Ordering.gt) = decide (r = 9218868437227405312) := by
  by_cases h : 9218868437227405312 < r
  · rw [(cmp_nan false r .gt hr h _).1]
    have : decide (r = 9218868437227405312) = false := by simp; omega
    rw [this]
  · have := cmp_gt false false r 9218868437227405311 (by omega) (by omega)
    rw [show wd false 9218868437227405311 = 9218868437227405311 from rfl] at this
    rw [this]
    simp [sr]; omega

theorem toIntegral_number (n : String) (x : Nat) (s : Bool) (m : Nat) (p : Int) (h : FloatKind.f64.decode x = .number s m p) :
    Extern.MathFloor.toIntegral n .zero #[.float .f64 x] = pure (.float .f64 (FloatKind.f64.encode ((Ieee.Datum.number s m p).integral .zero))) := by
  conv => lhs; whnf
  rw [h]

theorem whole_trunc (s : Bool) (r q : Nat) (hr : r < 9218868437227405312) (hq : q < 9218868437227405312) (h : val q = val r / 2 ^ E * 2 ^ E) :
    (FloatKind.f64.format.order (wd s r) (wd s q) == some Ordering.eq) = whole r := by
  rw [cmp_eq s s r q (by omega) (by omega)]
  unfold whole
  by_cases hw : val r % 2 ^ E = 0
  · have : val q = val r := by rw [h]; exact Nat.div_mul_cancel (Nat.dvd_of_mod_eq_zero hw)
    have e := val_inj this
    subst e
    simp [hw]
  · have : ¬ r = q := by
      intro e; subst e
      exact hw (by rw [h]; exact Nat.mul_mod_left _ _)
    have h2 : ¬ sr s r = sr s q := by cases s <;> simp [sr] <;> omega
    simp [hw, h2]

end Go.Proofs.Ytgfnejojjjlloaa
