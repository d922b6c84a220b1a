/- What math.Ldexp answers of a normal number, where the result has a word; and the program's NumOf. -/
import Derived.Test.YtjijinjedeinmaaDoorNumOfI
import Derived.Test.YtjijinjedeinmaaDoorWbits
namespace Go.Proofs.YtjijinjedeinmaaDoor
open Go.RowKit
open Fl

theorem lt_leastL (r : Nat) (hr : r < 9223372036854775808) (hf : r ≤ 9218868437227405312) : (FloatKind.f64.format.order (wd false r) 4503599627370496 == some Ordering.lt) = decide (r < 4503599627370496) := by
  have := cmp_lt false false r 4503599627370496 hf (by omega)
  rw [show wd false 4503599627370496 = 4503599627370496 from rfl] at this
  rw [this]
  have e : sr false r < sr false 4503599627370496 ↔ r < 4503599627370496 := by simp only [sr, Bool.false_eq_true, if_false]; omega
  simp only [e]

set_option maxHeartbeats 400000 in
theorem norm_normal (s : Bool) (r : Nat) (h : 4503599627370496 ≤ r) (hr : r < 9218868437227405312) (w : World) :
    Calls Tryd.prog 139 #[.float .f64 (wd s r)] w fun e w' => e = .returned (.tuple #[.float .f64 (wd s r), .int .i64 0]) ∧ w' = w := by
  have h1 := lt_leastL r (by omega) (by omega)
  rw [decide_eq_false (show ¬ r < 4503599627370496 by omega)] at h1
  go_enter Tryd.func139, Tryd.ntmps139
  go_wp2_with (go_at_call 112; refine (abs_any s r (by omega) _).mono ?_; rintro e w' ⟨rfl, rfl⟩)
  go_ret2
  exact ⟨rfl, rfl⟩

theorem val_one : val 4607182418800017408 = 2 ^ E := by
  have e1 : mg 4607182418800017408 = 2 ^ 52 := by rw [p52]; rfl
  have e2 : up 4607182418800017408 = E - 52 := by rw [E_eq]; rfl
  rw [val_eq, e1, e2, ← Nat.pow_add, show 52 + (E - 52) = E by have := E_eq; omega]
theorem val_tiny : val 4368491638549381120 = 2 ^ (E - 53) := by
  have e1 : mg 4368491638549381120 = 2 ^ 52 := by rw [p52]; rfl
  have e2 : up 4368491638549381120 = E - 105 := by rw [E_eq]; rfl
  rw [val_eq, e1, e2, ← Nat.pow_add, show 52 + (E - 105) = E - 53 by have := E_eq; omega]

theorem val_fieldL (r : Nat) (h : 4503599627370496 ≤ r) : val r = (4503599627370496 + r % 4503599627370496) * 2 ^ (r / 4503599627370496 - 1) := by
  unfold val; rw [if_neg (by omega)]
theorem val_joinL (n f : Nat) (hn : 1 ≤ n) (hf : f < 4503599627370496) : val (n * 4503599627370496 + f) = (4503599627370496 + f) * 2 ^ (n - 1) := by
  rw [val_fieldL _ (by omega), show (n * 4503599627370496 + f) % 4503599627370496 = f by omega, show (n * 4503599627370496 + f) / 4503599627370496 = n by omega]

/-- One times a number is it. -/
theorem mul_one_word (s : Bool) (p : Nat) (h0 : 0 < p) (hp : p < 9218868437227405312) : Ieee.double.mul 4607182418800017408 (wd s p) = some (wd s p) := by
  have h := mul_exact false s 4607182418800017408 p p 0 E (by omega) hp hp h0 (by rw [val_one, Nat.pow_zero, Nat.mul_one, Nat.mul_comm]) (by have := E_eq; omega)
  rw [show wd false 4607182418800017408 = 4607182418800017408 from rfl] at h
  rw [h, Bool.false_xor]
theorem mul_tiny_word (s : Bool) (q p : Nat) (hq : q < 9218868437227405312) (h0 : 0 < p) (hp : p < 9218868437227405312) (h : val q = val p * 2 ^ 53) : Ieee.double.mul 4368491638549381120 (wd s q) = some (wd s p) := by
  have hE := E_eq
  have h1 := mul_exact false s 4368491638549381120 q p 0 E (by omega) hq hp h0 (by
    rw [val_tiny, h, Nat.pow_zero, Nat.mul_one, Nat.mul_left_comm, ← Nat.pow_add, show E - 53 + 53 = E by omega]) (by omega)
  rw [show wd false 4368491638549381120 = 4368491638549381120 from rfl] at h1
  rw [h1, Bool.false_xor]

set_option maxHeartbeats 1000000 in
theorem ldexp1_any (s : Bool) (r p : Nat) (x : Int) (h : 4503599627370496 ≤ r) (hr : r < 9218868437227405312) (hx1 : -1074 ≤ x) (hx2 : x ≤ 1200) (h1 : -1074 ≤ x + ((r / 4503599627370496 : Nat) : Int) - 1023) (h2 : x + ((r / 4503599627370496 : Nat) : Int) - 1023 ≤ 1023)
    (hp0 : 0 < p) (hp : p < 9218868437227405312) (hpv : val p * 2 ^ E = val r * 2 ^ (x + 1074).toNat) (w : World) :
    Calls Tryd.prog 145 #[.float .f64 (wd s r), .int .i64 x] w fun e w' => e = .returned (.float .f64 (wd s p)) ∧ w' = w := by
  have hE := E_eq
  have h3 := eq0 s r (by omega)
  rw [decide_eq_false (show ¬ r = 0 by omega)] at h3
  have hb := run_bits (wd s r)
  have hf := run_frombits
  have hw := wd_lt s r (by omega)
  have hfd := wd_field s r (by omega)
  have hst := strip_word s r (by omega)
  have hni : decide (r = 9218868437227405312) = false := decide_eq_false (by omega)
  have hnn : decide (9218868437227405312 < r) = false := decide_eq_false (by omega)
  have hvr := val_fieldL r h
  generalize hK : ((r / 4503599627370496 : Nat) : Int) = K at h1 h2 hfd
  have HK := hide hK
  clear hK
  have hq1 : (0 : Int) ≤ ((wd s r : Nat) : Int) / 4503599627370496 := by omega
  have hq2 : ((wd s r : Nat) : Int) / 4503599627370496 < 4096 := by omega
  have han := i64_and2047 (((wd s r : Nat) : Int) / 4503599627370496) hq1 (by omega)
  rw [hfd] at han
  have hk0 : 1 ≤ K := by have := HK.out; omega
  clear hfd
  have hfl : r % 4503599627370496 < 4503599627370496 := Nat.mod_lt _ (by omega)
  have HPV : Hid (val p * 2 ^ E = (4503599627370496 + r % 4503599627370496) * 2 ^ (K.toNat - 1 + (x + 1074).toNat)) := by
    show _ = _
    rw [hpv, hvr, Nat.mul_assoc, ← Nat.pow_add, show r / 4503599627370496 - 1 = K.toNat - 1 by have := HK.out; omega]
  clear hpv hvr
  generalize hQ : ((wd s r : Nat) : Int) / 4503599627370496 = Q at hq1 hq2 han
  generalize hF : r % 4503599627370496 = f at hst HPV hfl
  have HH := hide h
  have HR := hide hr
  have HW := hide hw
  clear h hr hw hF
  by_cases hd : x + K - 1023 < -1022
  · obtain ⟨n, hn⟩ : ∃ n : Nat, x + (K - 1023) + 53 + 1023 = (n : Int) := ⟨(x + (K - 1023) + 53 + 1023).toNat, by omega⟩
    have hor := put_word s f n hfl (by omega)
    rw [show ((n * 4503599627370496 : Nat) : Int) = (x + (K - 1023) + 53 + 1023) * 4503599627370496 by rw [hn]; omega] at hor
    have hvj := val_joinL n f (by omega) hfl
    have hqv : val (n * 4503599627370496 + f) = val p * 2 ^ 53 := by
      refine Nat.eq_of_mul_eq_mul_right (Nat.two_pow_pos E) ?_
      rw [hvj, Nat.mul_right_comm (val p), HPV.out, Nat.mul_assoc, Nat.mul_assoc, ← Nat.pow_add, ← Nat.pow_add, show n - 1 + E = K.toNat - 1 + (x + 1074).toNat + 53 by omega]
    have hmul : ∀ w, (binOp .mul 24 (.float .f64 4368491638549381120) (.float .f64 (wd s (n * 4503599627370496 + f)))).run Tryd.prog w = .ok (.float .f64 (wd s p)) w := fun w =>
      run_float_arith w .mul 24 .f64 _ _ _ (mul_tiny_word s _ p (by omega) hp0 hp hqv)
    generalize n * 4503599627370496 + f = y at hor hmul
    clear hn hvj hqv hfl HPV
    have HP := hide hp
    clear hp
    go_enter Tryd.func145, Tryd.ntmps145
    go_wp2_with (first | (go_at_call 82; refine (minf_any _ _ (by have := HR.out; omega) _).mono ?_; rintro e w' ⟨rfl, rfl⟩) | (go_at_call 81; refine (mnan_any _ _ (by have := HR.out; omega) _).mono ?_; rintro e w' ⟨rfl, rfl⟩) | (go_at_call 139; refine (norm_normal _ _ HH.out HR.out _).mono ?_; rintro e w' ⟨rfl, rfl⟩))
    go_ret
    exact ⟨rfl, rfl⟩
  · obtain ⟨n, hn⟩ : ∃ n : Nat, x + (K - 1023) + 1023 = (n : Int) := ⟨(x + (K - 1023) + 1023).toNat, by omega⟩
    have hor := put_word s f n hfl (by omega)
    rw [show ((n * 4503599627370496 : Nat) : Int) = (x + (K - 1023) + 1023) * 4503599627370496 by rw [hn]; omega] at hor
    have hvj := val_joinL n f (by omega) hfl
    have hqv : n * 4503599627370496 + f = p := by
      refine val_inj (Nat.eq_of_mul_eq_mul_right (Nat.two_pow_pos E) ?_)
      rw [hvj, HPV.out, Nat.mul_assoc, ← Nat.pow_add, show n - 1 + E = K.toNat - 1 + (x + 1074).toNat by omega]
    rw [hqv] at hor
    have hmul : ∀ w, (binOp .mul 24 (.float .f64 4607182418800017408) (.float .f64 (wd s p))).run Tryd.prog w = .ok (.float .f64 (wd s p)) w := fun w =>
      run_float_arith w .mul 24 .f64 _ _ _ (mul_one_word s p hp0 hp)
    clear hn hvj hqv hfl HPV
    have HP := hide hp
    clear hp
    go_enter Tryd.func145, Tryd.ntmps145
    go_wp2_with (first | (go_at_call 82; refine (minf_any _ _ (by have := HR.out; omega) _).mono ?_; rintro e w' ⟨rfl, rfl⟩) | (go_at_call 81; refine (mnan_any _ _ (by have := HR.out; omega) _).mono ?_; rintro e w' ⟨rfl, rfl⟩) | (go_at_call 139; refine (norm_normal _ _ HH.out HR.out _).mono ?_; rintro e w' ⟨rfl, rfl⟩))
    go_ret
    exact ⟨rfl, rfl⟩

set_option maxHeartbeats 400000 in
theorem ldexp_any (s : Bool) (r p : Nat) (x : Int) (h : 4503599627370496 ≤ r) (hr : r < 9218868437227405312) (hx1 : -1074 ≤ x) (hx2 : x ≤ 1200) (h1 : -1074 ≤ x + ((r / 4503599627370496 : Nat) : Int) - 1023) (h2 : x + ((r / 4503599627370496 : Nat) : Int) - 1023 ≤ 1023)
    (hp0 : 0 < p) (hp : p < 9218868437227405312) (hpv : val p * 2 ^ E = val r * 2 ^ (x + 1074).toNat) (w : World) :
    Calls Tryd.prog 120 #[.float .f64 (wd s r), .int .i64 x] w fun e w' => e = .returned (.float .f64 (wd s p)) ∧ w' = w := by
  have HA := hide (ldexp1_any s r p x h hr hx1 hx2 h1 h2 hp0 hp hpv)
  clear h hr hx1 hx2 h1 h2 hp0 hp hpv
  go_enter Tryd.func120, Tryd.ntmps120
  go_wp2_with (go_at_call 145; refine (HA.out _).mono ?_; rintro e w' ⟨rfl, rfl⟩)
  go_ret
  exact ⟨rfl, rfl⟩

theorem and_one (m : Int) (h1 : -9223372036854775808 ≤ m) (h2 : m ≤ 9223372036854775807) : bits .and .i64 m 1 = m % 2 := by
  have e : (BitVec.ofInt 64 m &&& BitVec.ofInt 64 1).toNat = (m % 2).toNat := by
    rw [BitVec.toNat_and, BitVec.toNat_ofInt, BitVec.toNat_ofInt]
    rw [show ((1 : Int) % ((2 ^ 64 : Nat) : Int)).toNat = 2 ^ 1 - 1 by decide, Nat.and_two_pow_sub_one_eq_mod]
    have : ((2 ^ 64 : Nat) : Int) = 18446744073709551616 := by decide
    rw [this]
    omega
  show IntKind.i64.wrap ((BitVec.ofInt 64 m &&& BitVec.ofInt 64 1).toNat : Int) = _
  rw [e, IntKind.wrap_i64]
  omega
end Go.Proofs.YtjijinjedeinmaaDoor
