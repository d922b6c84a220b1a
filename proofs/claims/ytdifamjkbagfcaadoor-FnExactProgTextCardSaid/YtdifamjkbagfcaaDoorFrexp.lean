/- What math.Frexp answers of a finite number that is not nought. -/
import Derived.Test.YtdifamjkbagfcaaDoorKind
import Derived.Test.YtdifamjkbagfcaaDoorWbits
namespace Go.Proofs.YtdifamjkbagfcaaDoor
open Go.RowKit
open Fl

theorem lt_least (r : Nat) (hf : r ≤ 9218868437227405312) : (FloatKind.f64.format.order (wd false r) 4503599627370496 == some Ordering.lt) = decide (r < 4503599627370496) := by
  have := cmp_lt false false r 4503599627370496 hf (by omega)
  rw [show wd false 4503599627370496 = 4503599627370496 from rfl] at this
  rw [this]
  have e : sr false r < sr false 4503599627370496 ↔ r < 4503599627370496 := by simp only [sr, Bool.false_eq_true, if_false]; omega
  simp only [e]

theorem val_field (r : Nat) (h : 4503599627370496 ≤ r) : val r = (4503599627370496 + r % 4503599627370496) * 2 ^ (r / 4503599627370496 - 1) := by
  unfold val; rw [if_neg (by omega)]
theorem val_join (n f : Nat) (hn : 1 ≤ n) (hf : f < 4503599627370496) : val (n * 4503599627370496 + f) = (4503599627370496 + f) * 2 ^ (n - 1) := by
  rw [val_field _ (by omega), show (n * 4503599627370496 + f) % 4503599627370496 = f by omega, show (n * 4503599627370496 + f) / 4503599627370496 = n by omega]

theorem val_c52 : val 4841369599423283200 = 2 ^ 52 * 2 ^ E := by
  have := val_c 0 (by omega)
  rw [Nat.add_zero, Nat.add_zero] at this
  rw [this, p52]

/-- A subnormal number times 2^52. -/
theorem mul_up (s : Bool) (r : Nat) (h0 : 0 < r) (hr : r < 4503599627370496) : ∃ q, 4503599627370496 ≤ q ∧ q < 9218868437227405312 ∧ val q = val r * 2 ^ 52 ∧ Ieee.double.mul (wd s r) 4841369599423283200 = some (wd s q) := by
  have hE := E_eq
  have hv : val r = r := by unfold val; rw [if_pos hr]
  have hq := val_rg r 52 h0 (by omega)
  have hl := (Nat.log2_lt (n := r) (k := 52) (by omega)).2 (by rw [p52]; exact hr)
  have hlt := rg_lt r 52 h0 (by omega) (by omega)
  refine ⟨rg r 52, ?_, hlt, by rw [hq, hv], ?_⟩
  · rcases Nat.lt_or_ge (rg r 52) 4503599627370496 with h | h
    · exfalso
      have e : val (rg r 52) = rg r 52 := by unfold val; rw [if_pos h]
      rw [e, p52] at hq
      omega
    · exact h
  · have h := mul_exact s false r 4841369599423283200 (rg r 52) 0 E (by omega) (by omega) hlt (rg_pos r 52 h0 (by omega)) (by
      rw [val_c52, hq, hv, Nat.pow_zero, Nat.mul_one, Nat.mul_assoc]) (by omega)
    rw [show wd false 4841369599423283200 = 4841369599423283200 from rfl, Bool.xor_false] at h
    exact h

set_option maxHeartbeats 400000 in
theorem norm_any (s : Bool) (r : Nat) (h0 : 0 < r) (hr : r < 9218868437227405312) (w : World) :
    Calls Tryd.prog 160 #[.float .f64 (wd s r)] w fun e w' => (∃ (q b : Nat), e = .returned (.tuple #[.float .f64 (wd s q), .int .i64 (-(b : Int))]) ∧ b ≤ 52 ∧ 4503599627370496 ≤ q ∧ q < 9218868437227405312 ∧ val q = val r * 2 ^ b) ∧ w' = w := by
  have h1 := lt_least r (by omega)
  by_cases h : r < 4503599627370496
  · obtain ⟨q, hq1, hq2, hq3, hm⟩ := mul_up s r h0 h
    have HQ := hide hq3
    have hmul : ∀ w, (binOp .mul 75 (.float .f64 (wd s r)) (.float .f64 4841369599423283200)).run Tryd.prog w = .ok (.float .f64 (wd s q)) w := fun w => run_float_arith w .mul 75 .f64 _ _ _ hm
    rw [decide_eq_true h] at h1
    clear hm hq3
    go_enter Tryd.func160, Tryd.ntmps160
    go_wp2_with (go_at_call 151; refine (abs_any s r (by omega) _).mono ?_; rintro e w' ⟨rfl, rfl⟩)
    go_ret2
    exact ⟨⟨q, 52, rfl, by omega, hq1, hq2, HQ.out⟩, rfl⟩
  · rw [decide_eq_false h] at h1
    go_enter Tryd.func160, Tryd.ntmps160
    go_wp2_with (go_at_call 151; refine (abs_any s r (by omega) _).mono ?_; rintro e w' ⟨rfl, rfl⟩)
    go_ret2
    exact ⟨⟨r, 0, rfl, by omega, by omega, hr, by rw [Nat.pow_zero, Nat.mul_one]⟩, rfl⟩

theorem wraps_u64 (n : Int) (h₀ : 0 ≤ n) (h₁ : n < 2 ^ 64) : IntKind.u64.wrap n = n := by rw [IntKind.wrap_u64]; omega
theorem u64_and2047 (x : Int) (h₀ : 0 ≤ x) (h₁ : x < 18446744073709551616) : bits .and .u64 x 2047 = x % 2048 :=
  bits_mask .u64 64 (by decide) wraps_u64 11 (by decide) x h₀ h₁

/-- What the walk of frexp wants to know of a normal number's word. -/
theorem frexp_facts (s : Bool) (q : Nat) (hq1 : 4503599627370496 ≤ q) (hq2 : q < 9218868437227405312) : ∃ (Q : Int) (f K : Nat), ((wd s q : Nat) : Int) / 4503599627370496 = Q ∧ 0 ≤ Q ∧ Q < 4096 ∧ bits .and .u64 Q 2047 = (K : Int) ∧
    bits .andNot .u64 ((wd s q : Nat) : Int) 9218868437227405312 = ((wd s f : Nat) : Int) ∧ bits .or .u64 ((wd s f : Nat) : Int) 4602678819172646912 = ((wd s (1022 * 4503599627370496 + f) : Nat) : Int) ∧
    Hid (f < 4503599627370496 ∧ val q = (4503599627370496 + f) * 2 ^ (K - 1)) ∧ 1 ≤ K ∧ K ≤ 2046 := by
  have hst := strip_word s q (by omega)
  have hfd := wd_field s q (by omega)
  have hww := wd_lt s q (by omega)
  have hq3 : (0 : Int) ≤ ((wd s q : Nat) : Int) / 4503599627370496 := by omega
  have hq4 : ((wd s q : Nat) : Int) / 4503599627370496 < 4096 := by omega
  have han := u64_and2047 (((wd s q : Nat) : Int) / 4503599627370496) hq3 (by omega)
  rw [hfd] at han
  have hfl : q % 4503599627370496 < 4503599627370496 := Nat.mod_lt _ (by omega)
  have hor := put_word s (q % 4503599627370496) 1022 hfl (by omega)
  rw [show ((1022 * 4503599627370496 : Nat) : Int) = 4602678819172646912 from rfl] at hor
  exact ⟨_, _, _, rfl, hq3, hq4, han, hst, hor, ⟨hfl, val_field q hq1⟩, by omega, by omega⟩

set_option maxHeartbeats 1000000 in
theorem frexp1_any (s : Bool) (r : Nat) (h0 : 0 < r) (hr : r < 9218868437227405312) (w : World) :
    Calls Tryd.prog 155 #[.float .f64 (wd s r)] w fun e w' => (∃ (f a b : Nat), e = .returned (.tuple #[.float .f64 (wd s (1022 * 4503599627370496 + f)), .int .i64 ((a : Int) - b - 1021)]) ∧ f < 4503599627370496 ∧ val r * 2 ^ b = (4503599627370496 + f) * 2 ^ a ∧ a ≤ 2046 ∧ b ≤ 52) ∧ w' = w := by
  have h3 := eq0 s r (by omega)
  rw [decide_eq_false (show ¬ r = 0 by omega)] at h3
  have hni : decide (r = 9218868437227405312) = false := decide_eq_false (by omega)
  have hnn : decide (9218868437227405312 < r) = false := decide_eq_false (by omega)
  have hf := run_frombits
  have hbt := run_bits
  have HR := hide hr
  clear hr
  go_enter Tryd.func155, Tryd.ntmps155
  go_wp2_with (first | (go_at_call 134; refine (minf_any _ _ (by have := HR.out; omega) _).mono ?_; rintro e w' ⟨rfl, rfl⟩) | (go_at_call 132; refine (mnan_any _ _ (by have := HR.out; omega) _).mono ?_; rintro e w' ⟨rfl, rfl⟩) | (go_at_call 160; refine (norm_any _ _ h0 HR.out _).mono ?_; rintro e w' ⟨⟨q, b, rfl, hb, hq1, hq2, hqv⟩, rfl⟩; obtain ⟨Q, f, K, hQ, hQ1, hQ2, han, hst, hor, HV, hk1, hk2⟩ := frexp_facts s q hq1 hq2; have HQ := hide hqv; clear hqv hq1 hq2))
  go_ret2
  refine ⟨⟨f, K - 1, b, ?_, HV.out.1, by rw [← HQ.out]; exact HV.out.2, by omega, hb⟩, rfl⟩
  have e : (-(b : Int) + ((K : Int) - 1023 + 1)) = ((K - 1 : Nat) : Int) - b - 1021 := by omega
  rw [← e]
  rfl

set_option maxHeartbeats 400000 in
theorem frexp_any (s : Bool) (r : Nat) (h0 : 0 < r) (hr : r < 9218868437227405312) (w : World) :
    Calls Tryd.prog 137 #[.float .f64 (wd s r)] w fun e w' => (∃ (f a b : Nat), e = .returned (.tuple #[.float .f64 (wd s (1022 * 4503599627370496 + f)), .int .i64 ((a : Int) - b - 1021)]) ∧ f < 4503599627370496 ∧ val r * 2 ^ b = (4503599627370496 + f) * 2 ^ a ∧ a ≤ 2046 ∧ b ≤ 52) ∧ w' = w := by
  go_enter Tryd.func137, Tryd.ntmps137
  go_wp2_with (go_at_call 155; refine (frexp1_any s r h0 hr _).mono ?_; rintro e w' ⟨⟨f, a, b, rfl, h1, h2, h3, h4⟩, rfl⟩; have H2 := hide h2; clear h2)
  go_ret2
  exact ⟨⟨f, a, b, rfl, h1, H2.out, h3, h4⟩, rfl⟩
end Go.Proofs.YtdifamjkbagfcaaDoor
