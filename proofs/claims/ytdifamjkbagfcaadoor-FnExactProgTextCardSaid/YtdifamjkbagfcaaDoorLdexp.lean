/- What math.Ldexp answers of a normal number, where the result has a word; and the program's NumOf. -/
import Derived.Test.YtdifamjkbagfcaaDoorNumOfI
import Derived.Test.YtdifamjkbagfcaaDoorWbits
namespace Go.Proofs.YtdifamjkbagfcaaDoor
open Go.RowKit
open Fl

theorem lt_leastL (r : Nat) (hr : r < 9223372036854775808) (hf : r ≤ 9218868437227405312) : (FloatKind.f64.format.order (wd false r) 4503599627370496 == some Ordering.lt) = decide (r < 4503599627370496) := by
  have := cmp_lt false false r 4503599627370496 hf (by omega)
  rw [show wd false 4503599627370496 = 4503599627370496 from rfl] at this
  rw [this]
  have e : sr false r < sr false 4503599627370496 ↔ r < 4503599627370496 := by simp only [sr, Bool.false_eq_true, if_false]; omega
  simp only [e]

set_option maxHeartbeats 400000 in
theorem norm_normal (s : Bool) (r : Nat) (h : 4503599627370496 ≤ r) (hr : r < 9218868437227405312) (w : World) :
    Calls Tryd.prog 160 #[.float .f64 (wd s r)] w fun e w' => e = .returned (.tuple #[.float .f64 (wd s r), .int .i64 0]) ∧ w' = w := by
  have h1 := lt_leastL r (by omega) (by omega)
  rw [decide_eq_false (show ¬ r < 4503599627370496 by omega)] at h1
  go_enter Tryd.func160, Tryd.ntmps160
  go_wp2_with (go_at_call 151; refine (abs_any s r (by omega) _).mono ?_; rintro e w' ⟨rfl, rfl⟩)
  go_ret2
  exact ⟨rfl, rfl⟩

theorem val_one : val 4607182418800017408 = 2 ^ E := by
  have e1 : mg 4607182418800017408 = 2 ^ 52 := by rw [p52]; rfl
  have e2 : up 4607182418800017408 = E - 52 := by rw [E_eq]; rfl
  rw [val_eq, e1, e2, ← Nat.pow_add, show 52 + (E - 52) = E by have := E_eq; omega]
theorem val_tiny : val 4368491638549381120 = 2 ^ (E - 53) := by
  have e1 : mg 4368491638549381120 = 2 ^ 52 := by rw [p52]; rfl
  have e2 : up 4368491638549381120 = E - 105 := by rw [E_eq]; rfl
  rw [val_eq, e1, e2, ← Nat.pow_add, show 52 + (E - 105) = E - 53 by have := E_eq; omega]

theorem val_fieldL (r : Nat) (h : 4503599627370496 ≤ r) : val r = (4503599627370496 + r % 4503599627370496) * 2 ^ (r / 4503599627370496 - 1) := by
  unfold val; rw [if_neg (by omega)]
theorem val_joinL (n f : Nat) (hn : 1 ≤ n) (hf : f < 4503599627370496) : val (n * 4503599627370496 + f) = (4503599627370496 + f) * 2 ^ (n - 1) := by
  rw [val_fieldL _ (by omega), show (n * 4503599627370496 + f) % 4503599627370496 = f by omega, show (n * 4503599627370496 + f) / 4503599627370496 = n by omega]

/-- One times a number is it. -/
theorem mul_one_word (s : Bool) (p : Nat) (h0 : 0 < p) (hp : p < 9218868437227405312) : Ieee.double.mul 4607182418800017408 (wd s p) = some (wd s p) := by
  have h := mul_exact false s 4607182418800017408 p p 0 E (by omega) hp hp h0 (by rw [val_one, Nat.pow_zero, Nat.mul_one, Nat.mul_comm]) (by have := E_eq; omega)
  rw [show wd false 4607182418800017408 = 4607182418800017408 from rfl] at h
  rw [h, Bool.false_xor]
theorem mul_tiny_word (s : Bool) (q p : Nat) (hq : q < 9218868437227405312) (h0 : 0 < p) (hp : p < 9218868437227405312) (h : val q = val p * 2 ^ 53) : Ieee.double.mul 4368491638549381120 (wd s q) = some (wd s p) := by
  have hE := E_eq
  have h1 := mul_exact false s 4368491638549381120 q p 0 E (by omega) hq hp h0 (by
    rw [val_tiny, h, Nat.pow_zero, Nat.mul_one, Nat.mul_left_comm, ← Nat.pow_add, show E - 53 + 53 = E by omega]) (by omega)
  rw [show wd false 4368491638549381120 = 4368491638549381120 from rfl] at h1
  rw [h1, Bool.false_xor]

theorem and_one (m : Int) (h1 : -9223372036854775808 ≤ m) (h2 : m ≤ 9223372036854775807) : bits .and .i64 m 1 = m % 2 := by
  have e : (BitVec.ofInt 64 m &&& BitVec.ofInt 64 1).toNat = (m % 2).toNat := by
    rw [BitVec.toNat_and, BitVec.toNat_ofInt, BitVec.toNat_ofInt]
    rw [show ((1 : Int) % ((2 ^ 64 : Nat) : Int)).toNat = 2 ^ 1 - 1 by decide, Nat.and_two_pow_sub_one_eq_mod]
    have : ((2 ^ 64 : Nat) : Int) = 18446744073709551616 := by decide
    rw [this]
    omega
  show IntKind.i64.wrap ((BitVec.ofInt 64 m &&& BitVec.ofInt 64 1).toNat : Int) = _
  rw [e, IntKind.wrap_i64]
  omega
end Go.Proofs.YtdifamjkbagfcaaDoor
