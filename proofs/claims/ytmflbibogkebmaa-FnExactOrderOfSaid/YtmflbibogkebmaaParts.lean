/- What spec.l1Parts answers: of a finite number that is not nought the odd number and the place. -/
import Derived.Test.YtmflbibogkebmaaRows
import Derived.Test.YtmflbibogkebmaaFl
import Derived.WalkKit
import Derived.WalkSpells
import Derived.WalkLawsBesides
namespace Go.Proofs.Ytmflbibogkebmaa
open Go.RowKit
open Fl

theorem hide {p : Prop} (h : p) : Hid p := h
def rungOf : Value → Nat
  | .float _ b => b % 9223372036854775808
  | _ => 0
theorem rungOf_wd (s : Bool) (r : Nat) (h : r < 9223372036854775808) : rungOf (.float .f64 (wd s r)) = r := by
  cases s <;> simp [rungOf, wd] <;> omega

theorem c_false : (4841369599423283200 : Nat) = wd false 4841369599423283200 := rfl
theorem c_true : (14064741636278059008 : Nat) = wd true 4841369599423283200 := rfl

theorem gt_c (s : Bool) (r : Nat) (hr : r ≤ 9218868437227405312) : (FloatKind.f64.format.order (wd s r) 4841369599423283200 == some Ordering.gt) = (!s && decide (4841369599423283200 < r)) := by
  have := cmp_gt s false r 4841369599423283200 hr (by omega)
  rw [← c_false] at this
  rw [this]
  cases s <;> simp [sr] <;> omega
theorem lt_c (s : Bool) (r : Nat) (hr : r ≤ 9218868437227405312) : (FloatKind.f64.format.order (wd s r) 4841369599423283200 == some Ordering.lt) = (s || decide (r < 4841369599423283200)) := by
  have := cmp_lt s false r 4841369599423283200 hr (by omega)
  rw [← c_false] at this
  rw [this]
  cases s <;> simp [sr] <;> omega
theorem gt_nc (s : Bool) (r : Nat) (hr : r ≤ 9218868437227405312) : (FloatKind.f64.format.order (wd s r) 14064741636278059008 == some Ordering.gt) = (!s || decide (r < 4841369599423283200)) := by
  have := cmp_gt s true r 4841369599423283200 hr (by omega)
  rw [← c_true] at this
  rw [this]
  cases s <;> simp [sr] <;> omega
theorem lt_nc (s : Bool) (r : Nat) (hr : r ≤ 9218868437227405312) : (FloatKind.f64.format.order (wd s r) 14064741636278059008 == some Ordering.lt) = (s && decide (4841369599423283200 < r)) := by
  have := cmp_lt s true r 4841369599423283200 hr (by omega)
  rw [← c_true] at this
  rw [this]
  cases s <;> simp [sr] <;> omega

/-- float64(int(x)) == x -/
theorem back_eq (s : Bool) (r n : Nat) (hr : r < 9218868437227405312) (h0 : 0 < r) (hl : n < 9007199254740992) :
    (FloatKind.f64.format.order (floatOfInt .f64 (sg s n)) (wd s r) == some Ordering.eq) = decide (n * 2 ^ E = val r) := by
  have e : floatOfInt .f64 (sg s n) = Ieee.double.nearest (s && decide (0 < n)) n 0 := by
    show Ieee.double.nearest _ _ _ = _
    cases s <;> simp [sg]
    rw [show decide ((n : Int) < 0) = false by simp]
  obtain ⟨q, hq, hv, hn⟩ := ofInt n (s && decide (0 < n)) hl
  rw [e, hn, cmp_eq _ s q r (by omega) (by omega), ← hv]
  by_cases hqr : q = r
  · subst hqr
    have : 0 < n := by
      rcases Nat.eq_zero_or_pos n with e | e
      · subst e; rw [Nat.zero_mul] at hv; have := val_pos q h0; omega
      · exact e
    simp [this]
  · have h2 : ¬ val q = val r := fun h => hqr (val_inj h)
    have h3 : ¬ sr (s && decide (0 < n)) q = sr s r := by
      unfold sr
      cases s <;> simp
      · omega
      · split <;> omega
    simp [h2, h3]

theorem val_log2_of (r q a b : Nat) (h0 : 0 < r) (hq : 0 < q) (h : val r * 2 ^ b = q * 2 ^ a) : (val r).log2 + b = q.log2 + a := by
  have := congrArg Nat.log2 h
  rwa [log2_mul_pow _ _ (val_pos r h0), log2_mul_pow _ _ hq] at this

theorem val_c_log2 (r : Nat) (h0 : 0 < r) (h : r < 4845873199050653696) : (val r).log2 ≤ 1126 := by
  have hE := E_eq
  by_cases hc : r < 4841369599423283200
  · have h1 := val_lt_c r hc
    rw [← p52, ← Nat.pow_add] at h1
    have := (Nat.log2_lt (n := val r) (k := 52 + E) (by have := val_pos r h0; omega)).2 h1
    omega
  · have h1 := val_c (r - 4841369599423283200) (by omega)
    rw [show 4841369599423283200 + (r - 4841369599423283200) = r by omega] at h1
    have h2 : val r < 2 ^ 53 * 2 ^ E := by
      rw [h1, p53]; exact Nat.mul_lt_mul_of_pos_right (by omega) (Nat.two_pow_pos _)
    rw [← Nat.pow_add] at h2
    have := (Nat.log2_lt (n := val r) (k := 53 + E) (by have := val_pos r h0; omega)).2 h2
    omega

theorem whole_c (r : Nat) (h : 4841369599423283200 ≤ r) (h2 : r < 4845873199050653696) : val r = val r / 2 ^ E * 2 ^ E ∧ val r / 2 ^ E < 9007199254740992 ∧ 0 < val r / 2 ^ E := by
  have h1 := val_c (r - 4841369599423283200) (by omega)
  rw [show 4841369599423283200 + (r - 4841369599423283200) = r by omega] at h1
  rw [h1, Nat.mul_div_cancel _ (Nat.two_pow_pos _)]
  exact ⟨rfl, by omega, by omega⟩

theorem sg_rem (s : Bool) (n : Nat) : (sg s n).tmod 2 = sg s (n % 2) := by
  cases s
  · simp only [sg, Bool.false_eq_true, if_false]
    rw [Int.tmod_eq_emod_of_nonneg (by omega)]; omega
  · simp only [sg, if_true, Int.neg_tmod]
    rw [Int.tmod_eq_emod_of_nonneg (by omega)]; omega
theorem sg_quo (s : Bool) (n : Nat) : (sg s n).tdiv 2 = sg s (n / 2) := by
  cases s
  · simp only [sg, Bool.false_eq_true, if_false]
    rw [Int.tdiv_eq_ediv_of_nonneg (by omega)]; omega
  · simp only [sg, if_true, Int.neg_tdiv]
    rw [Int.tdiv_eq_ediv_of_nonneg (by omega)]; omega
theorem sg_zero (s : Bool) : sg s 0 = 0 := by cases s <;> simp [sg]
theorem sg_bd (s : Bool) (n : Nat) (h : n < 9007199254740992) : -9007199254740992 < sg s n ∧ sg s n < 9007199254740992 := by
  cases s <;> simp [sg] <;> omega

end Go.Proofs.Ytmflbibogkebmaa
