/- What the functions on the kind, the sign and the order of a number answer, the specification's and the program's: contracts. What IsMinus, SameNum and CompareNum answer, the specification's and the program's: contracts. What LeastNum and the laws' own sameFloat answer: contracts. What ToIndex answers, the specification's and the program's: contracts. -/
import Derived.Test.YtmflbibogkebmaaParts
import Derived.Laws.Externs
import Derived.Laws.BitsAllLaws
import Derived.Deep.Draws
namespace Go.Proofs.Ytmflbibogkebmaa
open Go.RowKit
open Fl

theorem z_false : (0 : Nat) = wd false 0 := rfl
theorem lt0 (s : Bool) (r : Nat) (hr : r ≤ 9218868437227405312) : (FloatKind.f64.format.order (wd s r) 0 == some Ordering.lt) = (s && decide (0 < r)) := by
  have := cmp_lt s false r 0 hr (by omega)
  rw [← z_false] at this
  rw [this]
  cases s <;> simp [sr] <;> omega
theorem eq0 (s : Bool) (r : Nat) (hr : r ≤ 9218868437227405312) : (FloatKind.f64.format.order (wd s r) 0 == some Ordering.eq) = decide (r = 0) := by
  have := cmp_eq s false r 0 hr (by omega)
  rw [← z_false] at this
  rw [this]
  cases s <;> simp [sr] <;> omega
theorem eqself (s : Bool) (r : Nat) (hr : r ≤ 9218868437227405312) : (FloatKind.f64.format.order (wd s r) (wd s r) == some Ordering.eq) = true := by
  rw [cmp_eq s s r r hr hr]; simp
theorem neself (s : Bool) (r : Nat) (hr : r < 9223372036854775808) : (FloatKind.f64.format.order (wd s r) (wd s r) != some Ordering.eq) = decide (9218868437227405312 < r) := by
  by_cases h : 9218868437227405312 < r
  · have := (cmp_nan s r .eq hr h (wd s r)).1
    simp only [bne, this, h, decide_true, Bool.not_false]
  · simp only [bne, eqself s r (by omega), h, decide_false, Bool.not_true]

theorem nan_word (t : Nat) : ∃ s r, r < 9223372036854775808 ∧ 9218868437227405312 < r ∧ (t % 2) * 2 ^ 63 + 0x7ff0000000000000 + 1 + (t / 2) % (2 ^ 52 - 1) = wd s r := by
  refine ⟨t % 2 == 1, 9218868437227405312 + 1 + (t / 2) % 4503599627370495, by omega, by omega, ?_⟩
  have h : t % 2 = 0 ∨ t % 2 = 1 := by omega
  rcases h with h | h
  · simp [h, wd]
  · simp only [h, wd, beq_self_eq_true, if_true]
    omega

/-- 0 NaN, 1 an infinity, 2 a zero, 3 whole, 4 else -/
def kindN (r : Nat) : Int := if 9218868437227405312 < r then 0 else if r = 9218868437227405312 then 1 else if r = 0 then 2 else if whole r then 3 else 4

theorem andNot_sign (s : Bool) (r : Nat) (hr : r < 9223372036854775808) : bits .andNot .u64 ((wd s r : Nat) : Int) 9223372036854775808 = (r : Int) := by
  have h := u64_andNot_nat (wd s r) 9223372036854775808 (wd_lt s r hr) (by omega)
  have e : ((9223372036854775808 : Nat) : Int) = 9223372036854775808 := rfl
  rw [e] at h
  rw [h]
  have hm : wd s r &&& (18446744073709551615 - 9223372036854775808) = r := by
    rw [show 18446744073709551615 - 9223372036854775808 = 2 ^ 63 - 1 by simp, Nat.and_two_pow_sub_one_eq_mod]
    cases s <;> simp [wd] <;> omega
  rw [hm]

theorem gt_max (r : Nat) (hr : r < 9223372036854775808) : (FloatKind.f64.format.order (wd false r) 9218868437227405311 == some Ordering.gt) = decide (r = 9218868437227405312) := by
  by_cases h : 9218868437227405312 < r
  · rw [(cmp_nan false r .gt hr h _).1]
    have : decide (r = 9218868437227405312) = false := by simp; omega
    rw [this]
  · have := cmp_gt false false r 9218868437227405311 (by omega) (by omega)
    rw [show wd false 9218868437227405311 = 9218868437227405311 from rfl] at this
    rw [this]
    simp [sr]; omega

theorem toIntegral_number (n : String) (x : Nat) (s : Bool) (m : Nat) (p : Int) (h : FloatKind.f64.decode x = .number s m p) :
    Extern.MathFloor.toIntegral n .zero #[.float .f64 x] = pure (.float .f64 (FloatKind.f64.encode ((Ieee.Datum.number s m p).integral .zero))) := by
  conv => lhs; whnf
  rw [h]

theorem whole_trunc (s : Bool) (r q : Nat) (hr : r < 9218868437227405312) (hq : q < 9218868437227405312) (h : val q = val r / 2 ^ E * 2 ^ E) :
    (FloatKind.f64.format.order (wd s r) (wd s q) == some Ordering.eq) = whole r := by
  rw [cmp_eq s s r q (by omega) (by omega)]
  unfold whole
  by_cases hw : val r % 2 ^ E = 0
  · have : val q = val r := by rw [h]; exact Nat.div_mul_cancel (Nat.dvd_of_mod_eq_zero hw)
    have e := val_inj this
    subst e
    simp [hw]
  · have : ¬ r = q := by
      intro e; subst e
      exact hw (by rw [h]; exact Nat.mul_mod_left _ _)
    have h2 : ¬ sr s r = sr s q := by cases s <;> simp [sr] <;> omega
    simp [hw, h2]

end Go.Proofs.Ytmflbibogkebmaa
namespace Go.Proofs.Ytmflbibogkebmaa
open Go.RowKit
open Fl

def minusB (s : Bool) (r : Nat) : Bool := s && decide (r ≤ 9218868437227405312)

theorem sign_word (s : Bool) (r : Nat) (hr : r < 9223372036854775808) : decide (wrap64 ((wd s r : Nat) : Int) < 0) = s := by
  cases s <;> simp [wrap64, wd] <;> omega

/-- whether two are the same -/
def sameB (s : Bool) (r : Nat) (t : Bool) (q : Nat) : Bool :=
  if 9218868437227405312 < r ∨ 9218868437227405312 < q then decide (9218868437227405312 < r ∧ 9218868437227405312 < q) else decide (s = t ∧ r = q)

theorem wd_inj (s t : Bool) (r q : Nat) (hr : r < 9223372036854775808) (hq : q < 9223372036854775808) : wd s r = wd t q ↔ s = t ∧ r = q := by
  cases s <;> cases t <;> simp [wd] <;> omega

theorem sameB_nn (s t : Bool) (r q : Nat) (h1 : 9218868437227405312 < r) (h2 : 9218868437227405312 < q) : sameB s r t q = true := by simp [sameB, h1, h2]
theorem sameB_nl (s t : Bool) (r q : Nat) (h1 : 9218868437227405312 < r) (h2 : ¬ 9218868437227405312 < q) : sameB s r t q = false := by simp [sameB, h1, h2]
theorem sameB_ln (s t : Bool) (r q : Nat) (h1 : ¬ 9218868437227405312 < r) (h2 : 9218868437227405312 < q) : sameB s r t q = false := by simp [sameB, h1, h2]
theorem sameB_word (s t : Bool) (r q : Nat) (hr : r < 9223372036854775808) (hq : q < 9223372036854775808) (h1 : ¬ 9218868437227405312 < r) (h2 : ¬ 9218868437227405312 < q) :
    sameB s r t q = (((wd s r : Nat) : Int) == ((wd t q : Nat) : Int)) := by
  have := wd_inj s t r q hr hq
  rw [Bool.eq_iff_iff]
  simp only [sameB, h1, h2, or_self, if_false, decide_eq_true_eq, ← this, beq_iff_eq]
  omega

theorem sr_eq_iff (s t : Bool) (r q : Nat) : sr s r = sr t q ↔ (r = q ∧ (s = t ∨ r = 0)) := by
  cases s <;> cases t <;> simp [sr] <;> omega

theorem sameB_num (s t : Bool) (r q : Nat) (h2 : ¬ 9218868437227405312 < q) (h : sr s r = sr t q) :
    sameB s r t q = (s == t) := by
  have h3 := (sr_eq_iff s t r q).1 h
  rw [Bool.eq_iff_iff]
  simp only [sameB, h2, or_self, if_false, decide_eq_true_eq, h3.1, and_true, beq_iff_eq]

/-- 0, -1, 1: the same, less, greater -/
def cmpN (s : Bool) (r : Nat) (t : Bool) (q : Nat) : Int :=
  if sameB s r t q = true then 0 else if 9218868437227405312 < r then 1 else if 9218868437227405312 < q then -1
  else if sr s r < sr t q then -1 else if sr t q < sr s r then 1 else if s = true then -1 else 1

end Go.Proofs.Ytmflbibogkebmaa
namespace Go.Proofs.Ytmflbibogkebmaa
open Go.RowKit
open Fl

def leastW (s : Bool) (r : Nat) (t : Bool) (q : Nat) : Nat := if cmpN s r t q ≤ 0 then wd s r else wd t q

theorem leastW_wd (s t : Bool) (r q : Nat) (hr : r < 9223372036854775808) (hq : q < 9223372036854775808) : ∃ u p, p < 9223372036854775808 ∧ leastW s r t q = wd u p := by
  unfold leastW
  split
  · exact ⟨s, r, hr, rfl⟩
  · exact ⟨t, q, hq, rfl⟩

theorem gt0 (s : Bool) (r : Nat) (hr : r ≤ 9218868437227405312) : (FloatKind.f64.format.order (wd s r) 0 == some Ordering.gt) = (!s && decide (0 < r)) := by
  have := cmp_gt s false r 0 hr (by omega)
  rw [← z_false] at this
  rw [this]
  cases s <;> simp [sr] <;> omega

/-- The laws' own test of two floats: what is the same passes. -/
theorem sameB_cases (s t : Bool) (r q : Nat) (h : sameB s r t q = true) : (9218868437227405312 < r ∧ 9218868437227405312 < q) ∨ (¬ 9218868437227405312 < r ∧ s = t ∧ r = q) := by
  unfold sameB at h
  split at h
  · exact .inl (by simpa using h)
  · rename_i hn
    exact .inr ⟨fun h1 => hn (.inl h1), by simpa using h⟩

theorem sameB_refl (s : Bool) (r : Nat) : sameB s r s r = true := by
  unfold sameB; split <;> simp_all
end Go.Proofs.Ytmflbibogkebmaa
namespace Go.Proofs.Ytmflbibogkebmaa
open Go.RowKit
open Fl

/-- whether a number is an index below m -/
def tiB (s : Bool) (r : Nat) (m : Int) : Bool := decide (1 ≤ m ∧ m ≤ 1000 ∧ r < 9218868437227405312 ∧ (s = false ∨ r = 0) ∧ val r < m.toNat * 2 ^ E) && whole r
def tiN (s : Bool) (r : Nat) (m : Int) : Int := if tiB s r m = true then ((val r / 2 ^ E : Nat) : Int) else 0

set_option maxHeartbeats 400000 in
theorem l1in_any (n lo hi : Int) (w : World) :
    Calls Try.prog 35 #[.int .i64 n, .int .i64 lo, .int .i64 hi] w fun e w' => e = .returned (.bool (decide (lo ≤ n ∧ n ≤ hi))) ∧ w' = w := by
  by_cases h1 : lo ≤ n <;> by_cases h2 : n ≤ hi
  all_goals
    go_enter Try.func35, Try.ntmps35
    go_wp2
    go_ret
    refine ⟨?_, rfl⟩
    simp [h1, h2]

/-- float64(m) for a small m -/
theorem ofSmall (m : Int) (h1 : 1 ≤ m) (h2 : m ≤ 1000) : ∃ q, q < 9218868437227405312 ∧ val q = m.toNat * 2 ^ E ∧ floatOfInt .f64 m = wd false q := by
  obtain ⟨q, hq, hv, hn⟩ := ofInt m.toNat false (by omega)
  refine ⟨q, hq, hv, ?_⟩
  rw [← hn]
  show Ieee.double.nearest _ _ _ = _
  rw [decide_eq_false (by omega), show m.natAbs = m.toNat by omega]

theorem tiN_false {s : Bool} {r : Nat} {m : Int} (h : tiB s r m = false) : tiN s r m = 0 := by unfold tiN; rw [h]; simp

theorem val_below (s : Bool) (r qm : Nat) (m : Int) (hs : s = false ∨ r = 0) (h : sr s r < sr false qm) (hv : val qm = m.toNat * 2 ^ E) : val r < m.toNat * 2 ^ E := by
  rw [← hv]
  refine val_mono ?_
  rcases hs with h1 | h1
  · subst h1; simp [sr] at h; exact h
  · subst h1; cases s <;> simp [sr] at h <;> omega
theorem val_above (s : Bool) (r qm : Nat) (m : Int) (hs : s = false ∨ r = 0) (h : ¬ sr s r < sr false qm) (hv : val qm = m.toNat * 2 ^ E) : ¬ val r < m.toNat * 2 ^ E := by
  rw [← hv, val_lt_iff]
  rcases hs with h1 | h1
  · subst h1; simp [sr] at h; omega
  · subst h1; cases s <;> simp [sr] at h <;> omega
theorem sg_of (s : Bool) (r : Nat) (hs : s = false ∨ r = 0) : sg s (val r / 2 ^ E) = ((val r / 2 ^ E : Nat) : Int) := by
  rcases hs with h1 | h1
  · subst h1; simp [sg]
  · subst h1; rw [val_zero, Nat.zero_div, sg_zero]; rfl
theorem back_ne (s : Bool) (r : Nat) (hr : r < 9218868437227405312) (hs : s = false ∨ r = 0) (hl : val r / 2 ^ E < 9007199254740992) :
    (FloatKind.f64.format.order (floatOfInt .f64 (sg s (val r / 2 ^ E))) (wd s r) != some Ordering.eq) = !whole r := by
  rcases Nat.eq_zero_or_pos r with h0 | h0
  · subst h0
    have e : floatOfInt .f64 (sg s (val 0 / 2 ^ E)) = wd false 0 := by
      rw [val_zero, Nat.zero_div, sg_zero]
      have e0 : floatOfInt .f64 0 = Ieee.double.nearest (decide ((0 : Int) < 0)) (Int.natAbs 0) 0 := rfl
      rw [e0]
      exact nearest_zero false 0
    rw [e, cmp_ne false s 0 0 (by omega) (by omega)]
    have : whole 0 = true := by unfold whole; rw [val_zero, Nat.zero_mod]; rfl
    rw [this]
    cases s <;> rfl
  · have h1 := back_eq s r (val r / 2 ^ E) hr h0 hl
    simp only [bne, h1, whole]
    by_cases hw : val r % 2 ^ E = 0
    · have : val r / 2 ^ E * 2 ^ E = val r := Nat.div_mul_cancel (Nat.dvd_of_mod_eq_zero hw)
      simp [hw, this]
    · have : ¬ val r / 2 ^ E * 2 ^ E = val r := fun h => hw (by rw [← h]; exact Nat.mul_mod_left _ _)
      simp [hw, this]

theorem cmp_ge (s t : Bool) (r q : Nat) (hr : r ≤ 9218868437227405312) (hq : q ≤ 9218868437227405312) :
    (FloatKind.f64.format.order (wd s r) (wd t q) == some Ordering.gt || FloatKind.f64.format.order (wd s r) (wd t q) == some Ordering.eq) = !decide (sr s r < sr t q) := by
  rw [cmp_gt s t r q hr hq, cmp_eq s t r q hr hq]
  rcases Int.lt_trichotomy (sr s r) (sr t q) with h | h | h
  · have h1 : ¬ sr t q < sr s r := by omega
    have h2 : ¬ sr s r = sr t q := by omega
    simp [h, h1, h2]
  · simp [h]
  · have h1 : ¬ sr s r < sr t q := by omega
    simp [h, h1]

end Go.Proofs.Ytmflbibogkebmaa
