/- What math/bits.TrailingZeros64 answers. -/
import Derived.Test.YtdifamjkbagfcaaDoorFrexp
import Derived.Laws.Tables
namespace Go.Proofs.YtdifamjkbagfcaaDoor
open Go.RowKit
open Fl

theorem and_compl (n k : Nat) (h : k < 2 ^ n) : k &&& (2 ^ n - (k + 1)) = 0 := by
  refine Nat.eq_of_testBit_eq fun i => ?_
  rw [Nat.testBit_and, Nat.testBit_two_pow_sub_succ h, Nat.zero_testBit]
  cases Nat.testBit k i <;> simp

theorem odd_and (k c : Nat) : (2 * k + 1) &&& (2 * c + 1) = 2 * (k &&& c) + 1 := by
  refine Nat.eq_of_testBit_eq fun i => ?_
  rw [Nat.testBit_and]
  cases i with
  | zero => simp [Nat.testBit_zero]
  | succ j =>
    simp only [Nat.testBit_succ]
    rw [show (2 * k + 1) / 2 = k by omega, show (2 * c + 1) / 2 = c by omega, show (2 * (k &&& c) + 1) / 2 = (k &&& c) by omega, Nat.testBit_and]

/-- The lowest bit that is set. -/
theorem low_bit (t k : Nat) (ht : t < 64) (h : (2 * k + 1) * 2 ^ t < 18446744073709551616) : (2 * k + 1) * 2 ^ t &&& (18446744073709551616 - (2 * k + 1) * 2 ^ t) = 2 ^ t := by
  have e64 : (18446744073709551616 : Nat) = 2 ^ (64 - t) * 2 ^ t := by rw [← Nat.pow_add, show 64 - t + t = 64 by omega]
  have hk : k < 2 ^ (63 - t) := by
    have h1 : (2 * k + 1) < 2 ^ (64 - t) := by
      rw [e64] at h
      exact Nat.lt_of_mul_lt_mul_right h
    rw [show 64 - t = (63 - t) + 1 by omega, Nat.pow_succ] at h1
    omega
  have e : 18446744073709551616 - (2 * k + 1) * 2 ^ t = (2 * (2 ^ (63 - t) - (k + 1)) + 1) * 2 ^ t := by
    rw [e64, ← Nat.sub_mul]
    have : 2 ^ (64 - t) = 2 * 2 ^ (63 - t) := by rw [show 64 - t = (63 - t) + 1 by omega, Nat.pow_succ, Nat.mul_comm]
    rw [this, show 2 * 2 ^ (63 - t) - (2 * k + 1) = 2 * (2 ^ (63 - t) - (k + 1)) + 1 by omega]
  rw [e, ← Nat.shiftLeft_eq, ← Nat.shiftLeft_eq, ← Nat.shiftLeft_and_distrib, odd_and, and_compl _ _ hk, Nat.shiftLeft_eq]
  simp

def tab64 : List Int := [0, 1, 56, 2, 57, 49, 28, 3, 61, 58, 42, 50, 38, 29, 17, 4, 62, 47, 59, 36, 45, 43, 51, 22, 53, 39, 33, 30, 24, 18, 12, 5, 63, 55, 48, 27, 60, 41, 37, 16, 46, 35, 44, 21, 52, 32, 23, 11, 54, 26, 40, 15, 34, 20, 31, 10, 25, 14, 19, 9, 13, 8, 7, 6]

theorem deBruijn (t : Fin 64) : 2 ^ t.val * 285870213051353865 % 18446744073709551616 / 288230376151711744 < 64 ∧ tab64[2 ^ t.val * 285870213051353865 % 18446744073709551616 / 288230376151711744]? = some (t.val : Int) := by
  revert t; decide +kernel

set_option maxHeartbeats 400000 in
theorem tz_raw (X P : Nat) (N i v : Int) (w : World) (hX : ((X : Int) == 0) = false) (hneg : IntKind.u64.wrap (-(X : Int)) = ((18446744073709551616 - X : Nat) : Int)) (hand : bits .and .u64 (X : Int) ((18446744073709551616 - X : Nat) : Int) = (P : Int))
    (hmul : IntKind.u64.wrap ((P : Int) * 285870213051353865) = N) (hshr : N / 288230376151711744 = i) (hi1 : 0 ≤ i) (hi2 : i < 64) (hv1 : 0 ≤ v) (hv2 : v < 64) (hc : w.cell? ⟨3, i.toNat, none⟩ = some (.int .u8 v)) :
    Calls Tryd.prog 138 #[.int .u64 X] w fun e w' => e = .returned (.int .i64 v) ∧ w' = w := by
  go_enter Tryd.func138, Tryd.ntmps138
  go_wp2
  go_ret
  exact ⟨rfl, rfl⟩

/-- The table lies in the world. -/
def Tab (w : World) : Prop := ∀ i : Nat, i < 64 → w.cell? ⟨3, i, none⟩ = some (.int .u8 (tab64.getD i 0))

theorem Tab.drewN {w : World} (h : Tab w) (n : Nat) : Tab (w.drewN n) := h

theorem tz_any (t k : Nat) (ht : t < 64) (h : (2 * k + 1) * 2 ^ t < 18446744073709551616) (w : World) (hT : Tab w) :
    Calls Tryd.prog 138 #[.int .u64 (((2 * k + 1) * 2 ^ t : Nat) : Int)] w fun e w' => e = .returned (.int .i64 t) ∧ w' = w := by
  have h0 : 0 < (2 * k + 1) * 2 ^ t := Nat.mul_pos (by omega) (Nat.two_pow_pos t)
  have hl := low_bit t k ht h
  obtain ⟨hd1, hd2⟩ := deBruijn ⟨t, ht⟩
  simp only at hd1 hd2
  generalize (2 * k + 1) * 2 ^ t = X at h h0 hl
  have hand := u64_and_nat X (18446744073709551616 - X) h (by omega)
  rw [hl] at hand
  have hN : IntKind.u64.wrap (((2 ^ t : Nat) : Int) * 285870213051353865) = ((2 ^ t * 285870213051353865 % 18446744073709551616 : Nat) : Int) := by
    rw [IntKind.wrap_u64]; simp
  have hc := hT _ hd1
  rw [List.getD_eq_getElem?_getD, hd2] at hc
  refine tz_raw X (2 ^ t) _ ((2 ^ t * 285870213051353865 % 18446744073709551616 / 288230376151711744 : Nat) : Int) (t : Int) w (by simp; omega) ?_ hand hN ?_ (by omega) (by omega) (by omega) (by omega) ?_
  · rw [IntKind.wrap_u64]; omega
  · simp
  · rw [Int.toNat_natCast]; exact hc

/-- A number as an odd one times a power of two. -/
theorem odd_split (M : Nat) (h : 0 < M) : ∃ t k, M = (2 * k + 1) * 2 ^ t := by
  induction M using Nat.strongRecOn with
  | _ M ih =>
    by_cases ho : M % 2 = 1
    · exact ⟨0, M / 2, by rw [Nat.pow_zero]; omega⟩
    · obtain ⟨t, k, e⟩ := ih (M / 2) (by omega) (by omega)
      exact ⟨t + 1, k, by rw [Nat.pow_succ, ← Nat.mul_assoc, ← e]; omega⟩

theorem split_lt (M t k : Nat) (e : M = (2 * k + 1) * 2 ^ t) (h : M < 9007199254740992) : t < 53 := by
  rcases Nat.lt_or_ge t 53 with h1 | h1
  · exact h1
  · exfalso
    have h2 : 2 ^ 53 ≤ 2 ^ t := Nat.pow_le_pow_right (by omega) h1
    rw [p53] at h2
    have h3 : 2 ^ t ≤ (2 * k + 1) * 2 ^ t := Nat.le_mul_of_pos_left _ (by omega)
    omega

/-- uint64(man): it has the same lowest bit. -/
theorem word_split (s : Bool) (M t k : Nat) (e : M = (2 * k + 1) * 2 ^ t) (h0 : 0 < M) (h : M < 9007199254740992) : ∃ c, (2 * c + 1) * 2 ^ t < 18446744073709551616 ∧ IntKind.u64.wrap (sg s M) = (((2 * c + 1) * 2 ^ t : Nat) : Int) := by
  have ht := split_lt M t k e h
  cases s
  · refine ⟨k, by omega, ?_⟩
    rw [← e, IntKind.wrap_u64]; simp only [sg, Bool.false_eq_true, if_false]; omega
  · have e64 : (18446744073709551616 : Nat) = 2 ^ (64 - t) * 2 ^ t := by rw [← Nat.pow_add, show 64 - t + t = 64 by omega]
    have h2 : 2 ^ (64 - t) = 2 * 2 ^ (63 - t) := by rw [show 64 - t = (63 - t) + 1 by omega, Nat.pow_succ, Nat.mul_comm]
    have hk : k < 2 ^ (63 - t) := by
      have h1 : (2 * k + 1) < 2 ^ (64 - t) := by
        have : (2 * k + 1) * 2 ^ t < 2 ^ (64 - t) * 2 ^ t := by omega
        exact Nat.lt_of_mul_lt_mul_right this
      omega
    have e2 : (2 * (2 ^ (63 - t) - (k + 1)) + 1) * 2 ^ t = 18446744073709551616 - M := by
      rw [e64, e, ← Nat.sub_mul, h2, show 2 * 2 ^ (63 - t) - (2 * k + 1) = 2 * (2 ^ (63 - t) - (k + 1)) + 1 by omega]
    refine ⟨2 ^ (63 - t) - (k + 1), by omega, ?_⟩
    rw [e2, IntKind.wrap_u64]; simp only [sg, if_true]; omega

theorem sg_shift (s : Bool) (M t k : Nat) (e : M = (2 * k + 1) * 2 ^ t) : sg s M / 2 ^ t = sg s (2 * k + 1) := by
  have hp : (0 : Int) < 2 ^ t := by exact_mod_cast Nat.two_pow_pos t
  have : sg s M = sg s (2 * k + 1) * 2 ^ t := by
    rw [e]; cases s <;> simp [sg, Int.neg_mul]
  rw [this, Int.mul_ediv_cancel _ (by omega)]
end Go.Proofs.YtdifamjkbagfcaaDoor
