/- The bits of a double's word: its exponent field taken out and put in. -/
import Derived.Test.YtdifamjkbagfcaaDoorB
import Derived.Laws.BitsAllLaws
import Derived.Laws.BitsLemmas
namespace Go.Proofs.YtdifamjkbagfcaaDoor
open Fl

theorem wraps_i64 (n : Int) (h₀ : 0 ≤ n) (h₁ : n < 2 ^ 63) : IntKind.i64.wrap n = n := by rw [IntKind.wrap_i64]; omega
theorem i64_and2047 (x : Int) (h₀ : 0 ≤ x) (h₁ : x < 9223372036854775808) : bits .and .i64 x 2047 = x % 2048 :=
  bits_mask .i64 63 (by decide) wraps_i64 11 (by decide) x h₀ h₁

theorem wd_field (s : Bool) (r : Nat) (hr : r < 9223372036854775808) : ((wd s r : Nat) : Int) / 4503599627370496 % 2048 = ((r / 4503599627370496 : Nat) : Int) := by
  cases s <;> simp [wd] <;> omega

theorem strip_nat (s : Bool) (r : Nat) (hr : r < 9223372036854775808) : wd s r &&& (18446744073709551615 - 9218868437227405312) = wd s (r % 4503599627370496) := by
  have e : 18446744073709551615 - 9218868437227405312 = 2 ^ 63 ||| (2 ^ 52 - 1) := by
    rw [nat_join 63 (2 ^ 63) (2 ^ 52 - 1) (Nat.mod_self _) (by simp)]
  rw [e, Nat.and_or_distrib_left, nat_bit, Nat.and_two_pow_sub_one_eq_mod]
  rw [nat_join 63 _ _ (Nat.mul_mod_left _ _) (by rw [p52]; omega), p52]
  cases s <;> simp [wd] <;> omega

theorem strip_word (s : Bool) (r : Nat) (hr : r < 9223372036854775808) : bits .andNot .u64 ((wd s r : Nat) : Int) 9218868437227405312 = ((wd s (r % 4503599627370496) : Nat) : Int) := by
  have h := u64_andNot_nat (wd s r) 9218868437227405312 (wd_lt s r hr) (by omega)
  have e : ((9218868437227405312 : Nat) : Int) = 9218868437227405312 := rfl
  rw [e] at h
  rw [h, strip_nat s r hr]

theorem put_nat (s : Bool) (f n : Nat) (hf : f < 4503599627370496) (hn : n < 2048) : wd s f ||| n * 4503599627370496 = wd s (n * 4503599627370496 + f) := by
  have h1 : f ||| n * 4503599627370496 = n * 4503599627370496 + f := by
    rw [Nat.or_comm]
    exact nat_join 52 (n * 4503599627370496) f (by rw [p52]; exact Nat.mul_mod_left _ _) (by rw [p52]; exact hf)
  cases s
  · exact h1
  · have h2 : wd true f = 2 ^ 63 ||| f := by
      rw [nat_join 63 (2 ^ 63) f (Nat.mod_self _) (by rw [show (2 : Nat) ^ 63 = 9223372036854775808 by simp]; omega)]
      simp [wd]
    rw [h2, Nat.or_assoc, h1, nat_join 63 (2 ^ 63) _ (Nat.mod_self _) (by rw [show (2 : Nat) ^ 63 = 9223372036854775808 by simp]; omega)]
    simp [wd]

theorem put_word (s : Bool) (f n : Nat) (hf : f < 4503599627370496) (hn : n < 2048) : bits .or .u64 ((wd s f : Nat) : Int) ((n * 4503599627370496 : Nat) : Int) = ((wd s (n * 4503599627370496 + f) : Nat) : Int) := by
  rw [u64_or_nat (wd s f) (n * 4503599627370496) (wd_lt s f (by omega)) (by omega), put_nat s f n hf hn]
end Go.Proofs.YtdifamjkbagfcaaDoor
