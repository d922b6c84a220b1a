/- What PartsOf answers, the specification's and the program's: contracts. -/
import Derived.Test.YtdifamjkbagfcaaDoorTZ
namespace Go.Proofs.YtdifamjkbagfcaaDoor
open Go.RowKit
open Fl

theorem kindN_small (r : Nat) (h : r = 0 ∨ 9218868437227405312 ≤ r) : kindN r = 0 ∨ kindN r = 1 ∨ kindN r = 2 := by
  unfold kindN
  by_cases h1 : 9218868437227405312 < r
  · rw [if_pos h1]; exact .inl rfl
  · rw [if_neg h1]
    by_cases h2 : r = 9218868437227405312
    · rw [if_pos h2]; exact .inr (.inl rfl)
    · rw [if_neg h2, if_pos (by omega)]; exact .inr (.inr rfl)
theorem kindN_great (r : Nat) (h0 : 0 < r) (h : r < 9218868437227405312) : kindN r = 3 ∨ kindN r = 4 := by
  unfold kindN
  rw [if_neg (by omega), if_neg (by omega), if_neg (by omega)]
  cases whole r
  · exact .inr rfl
  · exact .inl rfl

set_option maxHeartbeats 400000 in
theorem iparts_no (s : Bool) (r : Nat) (hr : r < 9223372036854775808) (h : r = 0 ∨ 9218868437227405312 ≤ r) (w : World) :
    Calls Tryd.prog 106 #[.float .f64 (wd s r)] w fun e w' => e = .returned (.tuple #[.int .i64 0, .int .i64 0, .bool false]) ∧ w' = w := by
  rcases kindN_small r h with hk | hk | hk
  all_goals
    clear h
    go_enter Tryd.func106, Tryd.ntmps106
    go_wp2_with (go_at_call 104; refine (ikind_any _ _ hr _).mono ?_; rintro e w' ⟨rfl, rfl⟩)
    go_ret3
    exact ⟨rfl, rfl⟩

theorem val_p53 : val 4845873199050653696 = 2 ^ 53 * 2 ^ E := by
  have h := val_half 4845873199050653696 (by omega)
  rw [show 4845873199050653696 - 4503599627370496 = 4841369599423283200 by omega, val_c52] at h
  rw [h, ← Nat.mul_assoc, ← Nat.pow_succ']

/-- frac * 2^53 -/
theorem mul_frac (s : Bool) (f : Nat) (hf : f < 4503599627370496) : Ieee.double.mul (wd s (1022 * 4503599627370496 + f)) 4845873199050653696 = some (wd s (4841369599423283200 + f)) := by
  have hE := E_eq
  have h1 := val_join 1022 f (by omega) hf
  rw [show 1022 - 1 = E - 53 by omega] at h1
  have h2 := val_c f hf
  have h := mul_exact s false (1022 * 4503599627370496 + f) 4845873199050653696 (4841369599423283200 + f) 0 E (by omega) (by omega) (by omega) (by omega) (by
    rw [h1, h2, val_p53, Nat.pow_zero, Nat.mul_one, ← Nat.pow_add, Nat.mul_assoc, Nat.mul_assoc, ← Nat.pow_add, ← Nat.pow_add, show E - 53 + (53 + E) = E + E by omega]) (by omega)
  rw [show wd false 4845873199050653696 = 4845873199050653696 from rfl, Bool.xor_false] at h
  exact h

theorem iparts_pr (r f a b t k : Nat) (hr : r < 9218868437227405312) (h0 : 0 < r) (hv : val r * 2 ^ b = (4503599627370496 + f) * 2 ^ a) (e : 4503599627370496 + f = (2 * k + 1) * 2 ^ t) (hl : 4503599627370496 + f < 9007199254740992) :
    PR r (2 * k + 1) ((a : Int) - b - 1021 - 53 + t) := by
  have hE := E_eq
  have hk : 2 * k + 1 < 9007199254740992 := by
    have : 2 * k + 1 ≤ (2 * k + 1) * 2 ^ t := Nat.le_mul_of_pos_right _ (Nat.two_pow_pos t)
    omega
  have h := pr_of r (2 * k + 1) (t + a) (b + E) hr h0 (by omega) hk (by
    rw [Nat.pow_add 2 b, ← Nat.mul_assoc, hv, e, Nat.pow_add 2 t]
    rw [Nat.mul_assoc, Nat.mul_assoc, Nat.mul_assoc, Nat.mul_comm (2 ^ E), Nat.mul_assoc])
  rw [show ((t + a : Nat) : Int) - ((b + E : Nat) : Int) = (a : Int) - b - 1021 - 53 + t by omega] at h
  exact h

/-- What the walk of PartsOf wants to know behind Frexp. -/
theorem iparts_facts (s : Bool) (f : Nat) (hf : f < 4503599627370496) : ∃ (y M t k X : Nat), (∀ w, (binOp .mul 75 (.float .f64 (wd s (1022 * 4503599627370496 + f))) (.float .f64 4845873199050653696)).run Tryd.prog w = .ok (.float .f64 (wd s y)) w) ∧
    (∀ w, (convert 75 3 (.float .f64 (wd s y))).run Tryd.prog w = .ok (.int .i64 (sg s M)) w) ∧ IntKind.u64.wrap (sg s M) = (X : Int) ∧ t < 53 ∧ sg s M / 2 ^ t = sg s (2 * k + 1) ∧
    Hid (M = 4503599627370496 + f ∧ M = (2 * k + 1) * 2 ^ t) ∧ Hid (∀ w, Tab w → Calls Tryd.prog 138 #[.int .u64 X] w fun e w' => e = .returned (.int .i64 t) ∧ w' = w) := by
  obtain ⟨t, k, e⟩ := odd_split (4503599627370496 + f) (by omega)
  obtain ⟨c, hc1, hc2⟩ := word_split s _ t k e (by omega) (by omega)
  have ht := split_lt _ t k e (by omega)
  refine ⟨4841369599423283200 + f, 4503599627370496 + f, t, k, (2 * c + 1) * 2 ^ t, fun w => run_float_arith w .mul 75 .f64 _ _ _ (mul_frac s f hf), fun w => ?_, hc2, ht, sg_shift s _ t k e, ⟨rfl, e⟩, fun w hw => tz_any t c (by omega) hc1 w hw⟩
  exact run_toInt s _ _ (by omega) (by rw [val_c f hf, Nat.mul_div_cancel _ (Nat.two_pow_pos E)]) (by omega) w

set_option maxHeartbeats 1000000 in
theorem iparts_yes (s : Bool) (r : Nat) (h0 : 0 < r) (hr : r < 9218868437227405312) (w : World) (hT : Tab w) :
    Calls Tryd.prog 106 #[.float .f64 (wd s r)] w fun e w' => (∃ q x, e = .returned (.tuple #[.int .i64 (sg s q), .int .i64 x, .bool true]) ∧ PR r q x) ∧ w' = w := by
  have HT := hide hT
  have HR := hide hr
  have HK := hide (kindN_great r h0 hr)
  clear hT hr
  rcases HK.out with hk | hk
  all_goals
    clear HK
    go_enter Tryd.func106, Tryd.ntmps106
    go_wp2_with (first | (go_at_call 104; refine (ikind_any _ _ (by have := HR.out; omega) _).mono ?_; rintro e w' ⟨rfl, rfl⟩) | (go_at_call 137; refine (frexp_any _ _ h0 HR.out _).mono ?_; rintro e w' ⟨⟨f, a, b, rfl, hf, hv, ha, hb⟩, rfl⟩; have HV := hide hv; clear hv; obtain ⟨y, M, t, k, X, hmul, hcv, hwr, ht, hsh, HM, HZ⟩ := iparts_facts s f hf) | (go_at_call 138; refine (HZ.out _ HT.out).mono ?_; rintro e w' ⟨rfl, rfl⟩))
    go_ret3
    refine ⟨⟨2 * k + 1, (a : Int) - b - 1021 - 53 + t, rfl, ?_⟩, rfl⟩
    exact iparts_pr r f a b t k HR.out h0 HV.out (HM.out.1.symm.trans HM.out.2) (by omega)
end Go.Proofs.YtdifamjkbagfcaaDoor
