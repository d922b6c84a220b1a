/- What spec.l1Parts answers: of a finite number that is not nought the odd number and the place. -/
import Derived.Test.YtdifamjkbagfcaaDoorRows
import Derived.Test.YtdifamjkbagfcaaDoorFl
import Derived.WalkKit
import Derived.WalkSpells
import Derived.WalkLawsBesides
namespace Go.Proofs.YtdifamjkbagfcaaDoor
open Go.RowKit
open Fl

theorem hide {p : Prop} (h : p) : Hid p := h
def rungOf : Value → Nat
  | .float _ b => b % 9223372036854775808
  | _ => 0
theorem rungOf_wd (s : Bool) (r : Nat) (h : r < 9223372036854775808) : rungOf (.float .f64 (wd s r)) = r := by
  cases s <;> simp [rungOf, wd] <;> omega

theorem c_false : (4841369599423283200 : Nat) = wd false 4841369599423283200 := rfl
theorem c_true : (14064741636278059008 : Nat) = wd true 4841369599423283200 := rfl

theorem gt_c (s : Bool) (r : Nat) (hr : r ≤ 9218868437227405312) : (FloatKind.f64.format.order (wd s r) 4841369599423283200 == some Ordering.gt) = (!s && decide (4841369599423283200 < r)) := by
  have := cmp_gt s false r 4841369599423283200 hr (by omega)
  rw [← c_false] at this
  rw [this]
  cases s <;> simp [sr] <;> omega
theorem lt_c (s : Bool) (r : Nat) (hr : r ≤ 9218868437227405312) : (FloatKind.f64.format.order (wd s r) 4841369599423283200 == some Ordering.lt) = (s || decide (r < 4841369599423283200)) := by
  have := cmp_lt s false r 4841369599423283200 hr (by omega)
  rw [← c_false] at this
  rw [this]
  cases s <;> simp [sr] <;> omega
theorem gt_nc (s : Bool) (r : Nat) (hr : r ≤ 9218868437227405312) : (FloatKind.f64.format.order (wd s r) 14064741636278059008 == some Ordering.gt) = (!s || decide (r < 4841369599423283200)) := by
  have := cmp_gt s true r 4841369599423283200 hr (by omega)
  rw [← c_true] at this
  rw [this]
  cases s <;> simp [sr] <;> omega
theorem lt_nc (s : Bool) (r : Nat) (hr : r ≤ 9218868437227405312) : (FloatKind.f64.format.order (wd s r) 14064741636278059008 == some Ordering.lt) = (s && decide (4841369599423283200 < r)) := by
  have := cmp_lt s true r 4841369599423283200 hr (by omega)
  rw [← c_true] at this
  rw [this]
  cases s <;> simp [sr] <;> omega

theorem run_half (s : Bool) (r : Nat) (h : 4841369599423283200 < r) (hr : r < 9218868437227405312) (w : World) :
    (binOp .quo 75 (.float .f64 (wd s r)) (.float .f64 4611686018427387904)).run Tryd.prog w = .ok (.float .f64 (wd s (r - 4503599627370496))) w :=
  run_float_arith w .quo 75 .f64 _ _ _ (div_two_exact s r _ hr (by omega) (by omega) (val_half r (by omega)))
theorem run_dbl (s : Bool) (r : Nat) (hr : r < 4841369599423283200) (w : World) :
    (binOp .mul 75 (.float .f64 (wd s r)) (.float .f64 4611686018427387904)).run Tryd.prog w = .ok (.float .f64 (wd s (dbl r))) w := by
  refine run_float_arith w .mul 75 .f64 _ _ _ ?_
  have h : dbl r ≤ 9218868437227405312 := by unfold dbl; split <;> omega
  have := mul_two s r (by omega)
  rw [Nat.min_eq_left h] at this
  exact this
theorem run_toInt (s : Bool) (r n : Nat) (hr : r < 9218868437227405312) (hn : val r / 2 ^ E = n) (hl : n < 9007199254740992) (w : World) :
    (convert 75 3 (.float .f64 (wd s r))).run Tryd.prog w = .ok (.int .i64 (sg s n)) w := by
  refine run_convert_float_int w 75 3 .f64 .i64 _ _ (by kernel_rfl) (by kernel_rfl) ?_
  unfold floatToIntVal
  have e : FloatKind.f64.decode (wd s r) = Ieee.double.read (wd s r) := rfl
  have h1 : IntKind.i64.min = -9223372036854775808 := rfl
  have h2 : IntKind.i64.max = 9223372036854775807 := rfl
  rw [e, toInt_fin s r hr, hn]
  simp only [h1, h2]
  rw [if_pos (by cases s <;> simp [sg] <;> omega)]

/-- float64(int(x)) == x -/
theorem back_eq (s : Bool) (r n : Nat) (hr : r < 9218868437227405312) (h0 : 0 < r) (hl : n < 9007199254740992) :
    (FloatKind.f64.format.order (floatOfInt .f64 (sg s n)) (wd s r) == some Ordering.eq) = decide (n * 2 ^ E = val r) := by
  have e : floatOfInt .f64 (sg s n) = Ieee.double.nearest (s && decide (0 < n)) n 0 := by
    show Ieee.double.nearest _ _ _ = _
    cases s <;> simp [sg]
    rw [show decide ((n : Int) < 0) = false by simp]
  obtain ⟨q, hq, hv, hn⟩ := ofInt n (s && decide (0 < n)) hl
  rw [e, hn, cmp_eq _ s q r (by omega) (by omega), ← hv]
  by_cases hqr : q = r
  · subst hqr
    have : 0 < n := by
      rcases Nat.eq_zero_or_pos n with e | e
      · subst e; rw [Nat.zero_mul] at hv; have := val_pos q h0; omega
      · exact e
    simp [this]
  · have h2 : ¬ val q = val r := fun h => hqr (val_inj h)
    have h3 : ¬ sr (s && decide (0 < n)) q = sr s r := by
      unfold sr
      cases s <;> simp
      · omega
      · split <;> omega
    simp [h2, h3]

theorem val_log2_of (r q a b : Nat) (h0 : 0 < r) (hq : 0 < q) (h : val r * 2 ^ b = q * 2 ^ a) : (val r).log2 + b = q.log2 + a := by
  have := congrArg Nat.log2 h
  rwa [log2_mul_pow _ _ (val_pos r h0), log2_mul_pow _ _ hq] at this

theorem val_c_log2 (r : Nat) (h0 : 0 < r) (h : r < 4845873199050653696) : (val r).log2 ≤ 1126 := by
  have hE := E_eq
  by_cases hc : r < 4841369599423283200
  · have h1 := val_lt_c r hc
    rw [← p52, ← Nat.pow_add] at h1
    have := (Nat.log2_lt (n := val r) (k := 52 + E) (by have := val_pos r h0; omega)).2 h1
    omega
  · have h1 := val_c (r - 4841369599423283200) (by omega)
    rw [show 4841369599423283200 + (r - 4841369599423283200) = r by omega] at h1
    have h2 : val r < 2 ^ 53 * 2 ^ E := by
      rw [h1, p53]; exact Nat.mul_lt_mul_of_pos_right (by omega) (Nat.two_pow_pos _)
    rw [← Nat.pow_add] at h2
    have := (Nat.log2_lt (n := val r) (k := 53 + E) (by have := val_pos r h0; omega)).2 h2
    omega

theorem whole_c (r : Nat) (h : 4841369599423283200 ≤ r) (h2 : r < 4845873199050653696) : val r = val r / 2 ^ E * 2 ^ E ∧ val r / 2 ^ E < 9007199254740992 ∧ 0 < val r / 2 ^ E := by
  have h1 := val_c (r - 4841369599423283200) (by omega)
  rw [show 4841369599423283200 + (r - 4841369599423283200) = r by omega] at h1
  rw [h1, Nat.mul_div_cancel _ (Nat.two_pow_pos _)]
  exact ⟨rfl, by omega, by omega⟩

theorem sg_rem (s : Bool) (n : Nat) : (sg s n).tmod 2 = sg s (n % 2) := by
  cases s
  · simp only [sg, Bool.false_eq_true, if_false]
    rw [Int.tmod_eq_emod_of_nonneg (by omega)]; omega
  · simp only [sg, if_true, Int.neg_tmod]
    rw [Int.tmod_eq_emod_of_nonneg (by omega)]; omega
theorem sg_quo (s : Bool) (n : Nat) : (sg s n).tdiv 2 = sg s (n / 2) := by
  cases s
  · simp only [sg, Bool.false_eq_true, if_false]
    rw [Int.tdiv_eq_ediv_of_nonneg (by omega)]; omega
  · simp only [sg, if_true, Int.neg_tdiv]
    rw [Int.tdiv_eq_ediv_of_nonneg (by omega)]; omega
theorem sg_zero (s : Bool) : sg s 0 = 0 := by cases s <;> simp [sg]
theorem sg_bd (s : Bool) (n : Nat) (h : n < 9007199254740992) : -9007199254740992 < sg s n ∧ sg s n < 9007199254740992 := by
  cases s <;> simp [sg] <;> omega

set_option maxHeartbeats 1000000 in
theorem parts_any (s : Bool) (r : Nat) (h0 : 0 < r) (hr : r < 9218868437227405312) (w : World) :
    Calls Tryd.prog 126 #[.float .f64 (wd s r)] w fun e w' => (∃ q x, e = .returned (.tuple #[.int .i64 (sg s q), .int .i64 x]) ∧ PR r q x) ∧ w' = w := by
  have HE : Hid (E = 1074) := E_eq
  go_enter Tryd.func126, Tryd.ntmps126
  go_wp2
  go_loop [0, 4] (fun x t => ∃ p k : Nat, x = .float .f64 (wd s p) ∧ t = .int .i64 k ∧ 0 < p ∧ Hid (p + k * 4503599627370496 = r) ∧ Hid (val r = val p * 2 ^ k)) (fun x _ => rungOf x)
  case atStart => exact ⟨r, 0, rfl, rfl, h0, by show _ = _; omega, by show _ = _; simp⟩
  case round =>
    obtain ⟨p, k, rfl, rfl, hp, HK, HV⟩ := hrel
    have hp2 : p < 9218868437227405312 := by have := HK.out; omega
    have hkb : k ≤ 2046 := by have := HK.out; omega
    by_cases hc : 4841369599423283200 < p
    · have h1 := gt_c s p (by omega)
      have h2 := lt_nc s p (by omega)
      have hh := run_half s p hc hp2
      cases s
      all_goals
        simp only [hc, decide_true, Bool.not_false, Bool.not_true, Bool.and_true] at h1 h2
        go_wp2
        go_round
        case rel =>
          refine ⟨p - 4503599627370496, k + 1, rfl, by go_num, by omega, ?_, ?_⟩
          · show _ = _
            have := HK.out; omega
          · show _ = _
            rw [HV.out, val_half p (by omega), Nat.pow_succ, Nat.mul_comm 2, Nat.mul_assoc, Nat.mul_comm 2]
        case measure =>
          simp [rungOf_wd _ _ (show p - 4503599627370496 < 9223372036854775808 by omega), rungOf_wd _ _ (show p < 9223372036854775808 by omega)]
          omega
    · have h1 := gt_c s p (by omega)
      have h2 := lt_nc s p (by omega)
      simp only [hc, decide_false, Bool.and_false] at h1 h2
      go_wp2
      clear h1 h2
      have HV1 : Hid (∃ a b : Nat, (k : Int) = (a : Int) - b ∧ val r * 2 ^ b = val p * 2 ^ a) := ⟨k, 0, by omega, by rw [HV.out]; simp⟩
      clear HV
      go_loop [0, 4] (fun x t => ∃ (p : Nat) (z : Int), x = .float .f64 (wd s p) ∧ t = .int .i64 z ∧ 0 < p ∧ p < 4845873199050653696 ∧ Hid (∃ a b : Nat, z = (a : Int) - b ∧ val r * 2 ^ b = val p * 2 ^ a)) (fun x _ => 4841369599423283200 - rungOf x)
      case atStart => exact ⟨p, k, rfl, rfl, hp, by omega, HV1⟩
      case round =>
        clear HK HV1 hkb hc hp2 hp
        obtain ⟨p, z, rfl, rfl, hp, hp2, HV⟩ := hrel
        have hz : -4000 < z ∧ z < 4000 := by
          obtain ⟨a, b, hz, hv⟩ := HV.out
          have h1 := val_log2_of r (val p) a b h0 (val_pos p hp) hv
          have h2 := val_c_log2 p hp hp2
          have h3 := val_log2_lt r hr h0
          omega
        obtain ⟨hz1, hz2⟩ := hz
        have h1 := lt_c s p (by omega)
        have h2 := gt_nc s p (by omega)
        by_cases hc : p < 4841369599423283200
        · have hf := floor_lt_c p hc
          have hi := run_toInt s p (val p / 2 ^ E) (by omega) rfl (by omega)
          have hbk := back_eq s p (val p / 2 ^ E) (by omega) hp (by omega)
          have hd := run_dbl s p hc
          have hsg := sg_bd s (val p / 2 ^ E) (by omega)
          have hrm := sg_rem s (val p / 2 ^ E)
          have HM : Hid (val p / 2 ^ E * 2 ^ E = val p → val p = val p / 2 ^ E * 2 ^ E) := fun h => h.symm
          simp only [hc, decide_true, Bool.or_true] at h1 h2
          have hrel2 : ∃ p' z', Value.float .f64 (wd s (dbl p)) = .float .f64 (wd s p') ∧ Value.int .i64 (z - 1) = .int .i64 z' ∧ 0 < p' ∧ p' < 4845873199050653696 ∧ Hid (∃ a b : Nat, z' = (a : Int) - b ∧ val r * 2 ^ b = val p' * 2 ^ a) := by
            refine ⟨dbl p, z - 1, rfl, rfl, by have := dbl_pos p hp; omega, by unfold dbl; split <;> omega, ?_⟩
            obtain ⟨a, b, hz, hv⟩ := HV.out
            exact ⟨a, b + 1, by omega, by rw [val_dbl, Nat.pow_succ, ← Nat.mul_assoc, hv, Nat.mul_comm _ 2, Nat.mul_assoc]⟩
          have hms : 4841369599423283200 - rungOf (.float .f64 (wd s (dbl p))) < 4841369599423283200 - rungOf (.float .f64 (wd s p)) := by
            have h3 := dbl_pos p hp
            have h4 : dbl p < 9223372036854775808 := by unfold dbl; split <;> omega
            rw [rungOf_wd _ _ h4, rungOf_wd _ _ (by omega)]; omega
          have HR := hide hrel2
          have HS := hide hms
          clear hrel2 hms
          generalize hn : val p / 2 ^ E = n at hf hi hbk hsg hrm HM
          have HN := hide hn
          clear hn
          by_cases hw : n * 2 ^ E = val p
          · simp only [hw, decide_true] at hbk
            have HW := hide hw
            clear hw
            by_cases ho : n % 2 = 1
            · have hne : (sg s 1 != 0) = true := by cases s <;> rfl
              rw [ho] at hrm
              go_wp2
              go_ret2
              obtain ⟨a, b, hz, hv⟩ := HV.out
              refine ⟨⟨n, z, rfl, ?_⟩, rfl⟩
              rw [hz]
              exact pr_of r n a b hr h0 ho (by omega) (by rw [HW.out]; exact hv)
            · rw [show n % 2 = 0 by omega, sg_zero] at hrm
              go_wp2
              go_round
              case rel => exact HR.out
              case measure => exact HS.out
          · simp only [hw, decide_false] at hbk
            go_wp2
            go_round
            case rel => exact HR.out
            case measure => exact HS.out
        · have hi := run_toInt s p (val p / 2 ^ E) (by omega) rfl (whole_c p (by omega) hp2).2.1
          obtain ⟨hw1, hw2, hw3⟩ := whole_c p (by omega) hp2
          have HW1 : Hid (∃ a b : Nat, z = (a : Int) - b ∧ val r * 2 ^ b = val p / 2 ^ E * 2 ^ E * 2 ^ a) := by
            obtain ⟨a, b, hz, hv⟩ := HV.out
            exact ⟨a, b, hz, by rw [← hw1]; exact hv⟩
          clear hw1 HV
          generalize hn : val p / 2 ^ E = n at hw2 hw3 HW1 hi
          clear hn
          have h3 : (FloatKind.f64.format.order (wd s p) 4841369599423283200 == some Ordering.lt) = s := by rw [h1]; simp [hc]
          have h4 : (FloatKind.f64.format.order (wd s p) 14064741636278059008 == some Ordering.gt) = !s := by rw [h2]; simp [hc]
          clear h1 h2
          have hsg := sg_bd s n hw2
          rcases Bool.eq_false_or_eq_true s with hs | hs
          all_goals
            have h5 := h3.trans hs
            have h6 := h4.trans (congrArg not hs)
            simp only [Bool.not_true, Bool.not_false] at h6
            clear h3 h4 hs
            go_wp2
            clear h5 h6 hi
            go_loop [5, 4] (fun m t => ∃ (n : Nat) (z : Int), m = .int .i64 (sg s n) ∧ t = .int .i64 z ∧ 0 < n ∧ n < 9007199254740992 ∧ Hid (∃ a b : Nat, z = (a : Int) - b ∧ val r * 2 ^ b = n * 2 ^ E * 2 ^ a)) (fun m _ => (intOf m).natAbs)
            case atStart => exact ⟨n, z, rfl, rfl, hw3, hw2, HW1⟩
            case round =>
              clear hsg hw2 hw3 HW1 hz1 hz2
              obtain ⟨n, z, rfl, rfl, hn0, hn, HV⟩ := hrel
              have hz : -4000 < z ∧ z < 4000 := by
                obtain ⟨a, b, hz, hv⟩ := HV.out
                rw [Nat.mul_assoc, ← Nat.pow_add] at hv
                have h1 := val_log2_of r n (E + a) b h0 hn0 hv
                have h2 := (Nat.log2_lt (n := n) (k := 53) (by omega)).2 (by rw [p53]; exact hn)
                have h3 := val_log2_lt r hr h0
                have := HE.out
                omega
              obtain ⟨hz1, hz2⟩ := hz
              have hsg := sg_bd s n hn
              have hrm := sg_rem s n
              by_cases ho : n % 2 = 1
              · have hne : (sg s 1 == 0) = false := by cases s <;> rfl
                rw [ho] at hrm
                go_wp2
                go_ret2
                obtain ⟨a, b, hz, hv⟩ := HV.out
                refine ⟨⟨n, z, rfl, ?_⟩, rfl⟩
                rw [hz]
                exact pr_of r n a b hr h0 ho hn hv
              · rw [show n % 2 = 0 by omega, sg_zero] at hrm
                have hqu := sg_quo s n
                have hwq : wrap64 (sg s (n / 2)) = sg s (n / 2) := by
                  have := sg_bd s (n / 2) (by omega)
                  unfold wrap64; omega
                go_wp2
                go_round
                case rel =>
                  refine ⟨n / 2, z + 1, by rw [hwq], rfl, by omega, by omega, ?_⟩
                  obtain ⟨a, b, hz, hv⟩ := HV.out
                  refine ⟨a + 1, b, by omega, ?_⟩
                  have : n = n / 2 * 2 := by omega
                  rw [hv, Nat.pow_succ]
                  have e2 : n * 2 ^ E * 2 ^ a = n / 2 * 2 * 2 ^ E * 2 ^ a := by rw [← this]
                  rw [e2]
                  simp only [Nat.mul_assoc, Nat.mul_comm, Nat.mul_left_comm]
                case measure =>
                  simp [intOf, hwq]
                  cases s <;> simp [sg] <;> omega
end Go.Proofs.YtdifamjkbagfcaaDoor
