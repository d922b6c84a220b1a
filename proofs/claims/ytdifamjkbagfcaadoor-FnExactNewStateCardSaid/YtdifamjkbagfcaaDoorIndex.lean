/- What ToIndex answers, the specification's and the program's: contracts. -/
import Derived.Test.YtdifamjkbagfcaaDoorOrder
namespace Go.Proofs.YtdifamjkbagfcaaDoor
open Go.RowKit
open Fl

/-- whether a number is an index below m -/
def tiB (s : Bool) (r : Nat) (m : Int) : Bool := decide (1 ≤ m ∧ m ≤ 1000 ∧ r < 9218868437227405312 ∧ (s = false ∨ r = 0) ∧ val r < m.toNat * 2 ^ E) && whole r
def tiN (s : Bool) (r : Nat) (m : Int) : Int := if tiB s r m = true then ((val r / 2 ^ E : Nat) : Int) else 0

set_option maxHeartbeats 400000 in
theorem l1in_any (n lo hi : Int) (w : World) :
    Calls Tryd.prog 68 #[.int .i64 n, .int .i64 lo, .int .i64 hi] w fun e w' => e = .returned (.bool (decide (lo ≤ n ∧ n ≤ hi))) ∧ w' = w := by
  by_cases h1 : lo ≤ n <;> by_cases h2 : n ≤ hi
  all_goals
    go_enter Tryd.func68, Tryd.ntmps68
    go_wp2
    go_ret
    refine ⟨?_, rfl⟩
    simp [h1, h2]

/-- float64(m) for a small m -/
theorem ofSmall (m : Int) (h1 : 1 ≤ m) (h2 : m ≤ 1000) : ∃ q, q < 9218868437227405312 ∧ val q = m.toNat * 2 ^ E ∧ floatOfInt .f64 m = wd false q := by
  obtain ⟨q, hq, hv, hn⟩ := ofInt m.toNat false (by omega)
  refine ⟨q, hq, hv, ?_⟩
  rw [← hn]
  show Ieee.double.nearest _ _ _ = _
  rw [decide_eq_false (by omega), show m.natAbs = m.toNat by omega]

theorem tiN_false {s : Bool} {r : Nat} {m : Int} (h : tiB s r m = false) : tiN s r m = 0 := by unfold tiN; rw [h]; simp

theorem val_below (s : Bool) (r qm : Nat) (m : Int) (hs : s = false ∨ r = 0) (h : sr s r < sr false qm) (hv : val qm = m.toNat * 2 ^ E) : val r < m.toNat * 2 ^ E := by
  rw [← hv]
  refine val_mono ?_
  rcases hs with h1 | h1
  · subst h1; simp [sr] at h; exact h
  · subst h1; cases s <;> simp [sr] at h <;> omega
theorem val_above (s : Bool) (r qm : Nat) (m : Int) (hs : s = false ∨ r = 0) (h : ¬ sr s r < sr false qm) (hv : val qm = m.toNat * 2 ^ E) : ¬ val r < m.toNat * 2 ^ E := by
  rw [← hv, val_lt_iff]
  rcases hs with h1 | h1
  · subst h1; simp [sr] at h; omega
  · subst h1; cases s <;> simp [sr] at h <;> omega
theorem sg_of (s : Bool) (r : Nat) (hs : s = false ∨ r = 0) : sg s (val r / 2 ^ E) = ((val r / 2 ^ E : Nat) : Int) := by
  rcases hs with h1 | h1
  · subst h1; simp [sg]
  · subst h1; rw [val_zero, Nat.zero_div, sg_zero]; rfl
theorem back_ne (s : Bool) (r : Nat) (hr : r < 9218868437227405312) (hs : s = false ∨ r = 0) (hl : val r / 2 ^ E < 9007199254740992) :
    (FloatKind.f64.format.order (floatOfInt .f64 (sg s (val r / 2 ^ E))) (wd s r) != some Ordering.eq) = !whole r := by
  rcases Nat.eq_zero_or_pos r with h0 | h0
  · subst h0
    have e : floatOfInt .f64 (sg s (val 0 / 2 ^ E)) = wd false 0 := by
      rw [val_zero, Nat.zero_div, sg_zero]
      have e0 : floatOfInt .f64 0 = Ieee.double.nearest (decide ((0 : Int) < 0)) (Int.natAbs 0) 0 := rfl
      rw [e0]
      exact nearest_zero false 0
    rw [e, cmp_ne false s 0 0 (by omega) (by omega)]
    have : whole 0 = true := by unfold whole; rw [val_zero, Nat.zero_mod]; rfl
    rw [this]
    cases s <;> rfl
  · have h1 := back_eq s r (val r / 2 ^ E) hr h0 hl
    simp only [bne, h1, whole]
    by_cases hw : val r % 2 ^ E = 0
    · have : val r / 2 ^ E * 2 ^ E = val r := Nat.div_mul_cancel (Nat.dvd_of_mod_eq_zero hw)
      simp [hw, this]
    · have : ¬ val r / 2 ^ E * 2 ^ E = val r := fun h => hw (by rw [← h]; exact Nat.mul_mod_left _ _)
      simp [hw, this]

set_option maxHeartbeats 800000 in
theorem stoix_any (s : Bool) (r : Nat) (hr : r < 9223372036854775808) (m : Int) (w : World) :
    Calls Tryd.prog 122 #[.float .f64 (wd s r), .int .i64 m] w fun e w' => e = .returned (.tuple #[.int .i64 (tiN s r m), .bool (tiB s r m)]) ∧ w' = w := by
  by_cases hm : 1 ≤ m ∧ m ≤ 1000
  · obtain ⟨hm1, hm2⟩ := hm
    obtain ⟨qm, hq, hv, hf⟩ := ofSmall m hm1 hm2
    have HV := hide hv
    clear hv
    have hin : decide (1 ≤ m ∧ m ≤ 1000) = true := by simp [hm1, hm2]
    by_cases h1 : 9218868437227405312 < r
    · have hb : tiB s r m = false := by unfold tiB; rw [decide_eq_false (by omega)]; rfl
      rw [tiN_false hb, hb]
      clear hb
      have h2 := (cmp_nan s r .lt hr h1 0).1
      have h3 := (cmp_nan s r .lt hr h1 (wd false qm)).1
      go_enter Tryd.func122, Tryd.ntmps122
      go_wp2_with (go_at_call 68; refine (l1in_any _ _ _ _).mono ?_; rintro e w' ⟨rfl, rfl⟩)
      go_ret2
      exact ⟨rfl, rfl⟩
    · have h2 := lt0 s r (by omega)
      have h3 := cmp_lt s false r qm (by omega) (by omega)
      by_cases hneg : s = true ∧ 0 < r
      · obtain ⟨rfl, h0⟩ := hneg
        have hb : tiB true r m = false := by
          unfold tiB; rw [decide_eq_false (by rintro ⟨_, _, _, h | h, _⟩ <;> simp_all)]; rfl
        rw [tiN_false hb, hb]
        rw [decide_eq_true h0, Bool.and_true] at h2
        clear hb h3
        go_enter Tryd.func122, Tryd.ntmps122
        go_wp2_with (go_at_call 68; refine (l1in_any _ _ _ _).mono ?_; rintro e w' ⟨rfl, rfl⟩)
        go_ret2
        exact ⟨rfl, rfl⟩
      · have hsg : s = false ∨ r = 0 := by
          cases s <;> simp_all
        have h2' : (FloatKind.f64.format.order (wd s r) 0 == some Ordering.lt) = false := by
          rw [h2]; rcases hsg with h | h <;> simp [h]
        clear h2 hneg
        by_cases hlt : sr s r < sr false qm
        · rw [decide_eq_true hlt] at h3
          have hval := val_below s r qm m hsg hlt HV.out
          have hn : val r / 2 ^ E < m.toNat := by
            rw [Nat.div_lt_iff_lt_mul (Nat.two_pow_pos _)]; exact hval
          have hfin : r < 9218868437227405312 := by
            rcases hsg with h | h
            · subst h; simp [sr] at hlt; omega
            · omega
          have hi := run_toInt s r (val r / 2 ^ E) hfin rfl (by omega)
          have hbk := back_ne s r hfin hsg (by omega)
          have hpos := sg_of s r hsg
          rw [hpos] at hi hbk
          have hT : tiB s r m = whole r := by
            unfold tiB; rw [decide_eq_true ⟨hm1, hm2, hfin, hsg, hval⟩]; simp
          have HT : Hid (tiN s r m = if whole r = true then ((val r / 2 ^ E : Nat) : Int) else 0) := by
            show _ = _
            unfold tiN; rw [hT]
          rw [hT]
          clear hT hlt hval hsg HV hpos
          generalize hN : val r / 2 ^ E = N at hi hbk HT hn
          clear hN
          have hn2 : (0 : Int) ≤ (N : Int) ∧ (N : Int) ≤ 1000 := by omega
          clear hn
          cases hw : whole r
          all_goals
            rw [hw] at hbk
            have HT2 := HT.out
            rw [hw] at HT2
            have HT3 := hide HT2
            clear HT2 HT hw
            go_enter Tryd.func122, Tryd.ntmps122
            go_wp2_with (go_at_call 68; refine (l1in_any _ _ _ _).mono ?_; rintro e w' ⟨rfl, rfl⟩)
            go_ret2
            refine ⟨?_, rfl⟩
            rw [HT3.out]
            rfl
        · rw [decide_eq_false hlt] at h3
          have hb : tiB s r m = false := by
            unfold tiB
            rw [decide_eq_false (fun h => val_above s r qm m hsg hlt HV.out h.2.2.2.2)]; rfl
          rw [tiN_false hb, hb]
          clear hb hlt hsg
          go_enter Tryd.func122, Tryd.ntmps122
          go_wp2_with (go_at_call 68; refine (l1in_any _ _ _ _).mono ?_; rintro e w' ⟨rfl, rfl⟩)
          go_ret2
          exact ⟨rfl, rfl⟩
  · have hb : tiB s r m = false := by unfold tiB; rw [decide_eq_false (fun h => hm ⟨h.1, h.2.1⟩)]; rfl
    rw [tiN_false hb, hb]
    have hin : decide (1 ≤ m ∧ m ≤ 1000) = false := decide_eq_false hm
    clear hb hm
    go_enter Tryd.func122, Tryd.ntmps122
    go_wp2_with (go_at_call 68; refine (l1in_any _ _ _ _).mono ?_; rintro e w' ⟨rfl, rfl⟩)
    go_ret2
    exact ⟨rfl, rfl⟩

theorem cmp_ge (s t : Bool) (r q : Nat) (hr : r ≤ 9218868437227405312) (hq : q ≤ 9218868437227405312) :
    (FloatKind.f64.format.order (wd s r) (wd t q) == some Ordering.gt || FloatKind.f64.format.order (wd s r) (wd t q) == some Ordering.eq) = !decide (sr s r < sr t q) := by
  rw [cmp_gt s t r q hr hq, cmp_eq s t r q hr hq]
  rcases Int.lt_trichotomy (sr s r) (sr t q) with h | h | h
  · have h1 : ¬ sr t q < sr s r := by omega
    have h2 : ¬ sr s r = sr t q := by omega
    simp [h, h1, h2]
  · simp [h]
  · have h1 : ¬ sr s r < sr t q := by omega
    simp [h, h1]

set_option maxHeartbeats 800000 in
theorem itoix_any (s : Bool) (r : Nat) (hr : r < 9223372036854775808) (m : Int) (w : World) :
    Calls Tryd.prog 121 #[.float .f64 (wd s r), .int .i64 m] w fun e w' => e = .returned (.tuple #[.int .i64 (tiN s r m), .bool (tiB s r m)]) ∧ w' = w := by
  by_cases hm : 1 ≤ m ∧ m ≤ 1000
  · obtain ⟨hm1, hm2⟩ := hm
    obtain ⟨qm, hq, hv, hf⟩ := ofSmall m hm1 hm2
    have HV := hide hv
    clear hv
    by_cases hfin : r < 9218868437227405312
    · by_cases hwh : whole r = true
      · have hk : kindN r = 2 ∨ kindN r = 3 := by
          have h1 : ¬ 9218868437227405312 < r := by omega
          have h2 : ¬ r = 9218868437227405312 := by omega
          by_cases h3 : r = 0
          · exact .inl (by unfold kindN; rw [if_neg h1, if_neg h2, if_pos h3])
          · exact .inr (by unfold kindN; rw [if_neg h1, if_neg h2, if_neg h3, if_pos hwh])
        have h2 := lt0 s r (by omega)
        have h3 := cmp_ge s false r qm (by omega) (by omega)
        by_cases hneg : s = true ∧ 0 < r
        · obtain ⟨rfl, h0⟩ := hneg
          have hb : tiB true r m = false := by
            unfold tiB; rw [decide_eq_false (by rintro ⟨_, _, _, h | h, _⟩ <;> simp_all)]; rfl
          rw [tiN_false hb, hb]
          rw [decide_eq_true h0, Bool.and_true] at h2
          clear hb h3 hwh
          rcases hk with hk | hk
          all_goals
            go_enter Tryd.func121, Tryd.ntmps121
            go_wp2_with (go_at_call 104; refine (ikind_any _ _ hr _).mono ?_; rintro e w' ⟨rfl, rfl⟩)
            go_ret2
            exact ⟨rfl, rfl⟩
        · have hsg : s = false ∨ r = 0 := by
            cases s <;> simp_all
          have h2' : (FloatKind.f64.format.order (wd s r) 0 == some Ordering.lt) = false := by
            rw [h2]; rcases hsg with h | h <;> simp [h]
          clear h2 hneg
          by_cases hlt : sr s r < sr false qm
          · rw [decide_eq_true hlt, Bool.not_true] at h3
            have hval := val_below s r qm m hsg hlt HV.out
            have hn : val r / 2 ^ E < m.toNat := by
              rw [Nat.div_lt_iff_lt_mul (Nat.two_pow_pos _)]; exact hval
            have hi := run_toInt s r (val r / 2 ^ E) hfin rfl (by omega)
            have hpos := sg_of s r hsg
            rw [hpos] at hi
            have hT : tiB s r m = true := by
              unfold tiB; rw [decide_eq_true ⟨hm1, hm2, hfin, hsg, hval⟩, hwh]; rfl
            have HT : Hid (tiN s r m = ((val r / 2 ^ E : Nat) : Int)) := by
              show _ = _
              unfold tiN; rw [hT]; rfl
            rw [hT]
            clear hT hlt hval hsg HV hpos hwh
            generalize hN : val r / 2 ^ E = N at hi HT hn
            clear hN
            have hn2 : (0 : Int) ≤ (N : Int) ∧ (N : Int) ≤ 1000 := by omega
            clear hn
            rcases hk with hk | hk
            all_goals
              go_enter Tryd.func121, Tryd.ntmps121
              go_wp2_with (go_at_call 104; refine (ikind_any _ _ hr _).mono ?_; rintro e w' ⟨rfl, rfl⟩)
              go_ret2
              refine ⟨?_, rfl⟩
              rw [HT.out]
              rfl
          · rw [decide_eq_false hlt, Bool.not_false] at h3
            have hb : tiB s r m = false := by
              unfold tiB
              rw [decide_eq_false (fun h => val_above s r qm m hsg hlt HV.out h.2.2.2.2)]; rfl
            rw [tiN_false hb, hb]
            clear hb hlt hsg hwh
            rcases hk with hk | hk
            all_goals
              go_enter Tryd.func121, Tryd.ntmps121
              go_wp2_with (go_at_call 104; refine (ikind_any _ _ hr _).mono ?_; rintro e w' ⟨rfl, rfl⟩)
              go_ret2
              exact ⟨rfl, rfl⟩
      · have hb : tiB s r m = false := by unfold tiB; rw [Bool.eq_false_iff.2 hwh]; simp
        rw [tiN_false hb, hb]
        have hk : kindN r = 4 := by
          have h1 : ¬ 9218868437227405312 < r := by omega
          have h2 : ¬ r = 9218868437227405312 := by omega
          have h3 : ¬ r = 0 := by
            intro h; subst h; apply hwh; unfold whole; rw [val_zero, Nat.zero_mod]; rfl
          unfold kindN; rw [if_neg h1, if_neg h2, if_neg h3, if_neg hwh]
        clear hb hwh
        go_enter Tryd.func121, Tryd.ntmps121
        go_wp2_with (go_at_call 104; refine (ikind_any _ _ hr _).mono ?_; rintro e w' ⟨rfl, rfl⟩)
        go_ret2
        exact ⟨rfl, rfl⟩
    · have hb : tiB s r m = false := by unfold tiB; rw [decide_eq_false (by omega)]; rfl
      rw [tiN_false hb, hb]
      have hk : kindN r = 0 ∨ kindN r = 1 := by
        by_cases h1 : 9218868437227405312 < r
        · exact .inl (by unfold kindN; rw [if_pos h1])
        · exact .inr (by unfold kindN; rw [if_neg h1, if_pos (by omega)])
      clear hb
      rcases hk with hk | hk
      all_goals
        go_enter Tryd.func121, Tryd.ntmps121
        go_wp2_with (go_at_call 104; refine (ikind_any _ _ hr _).mono ?_; rintro e w' ⟨rfl, rfl⟩)
        go_ret2
        exact ⟨rfl, rfl⟩
  · have hb : tiB s r m = false := by unfold tiB; rw [decide_eq_false (fun h => hm ⟨h.1, h.2.1⟩)]; rfl
    rw [tiN_false hb, hb]
    clear hb
    by_cases h1 : m < 1
    · clear hm
      go_enter Tryd.func121, Tryd.ntmps121
      go_wp2
      go_ret2
      exact ⟨rfl, rfl⟩
    · have h2 : 1000 < m := by omega
      clear hm
      go_enter Tryd.func121, Tryd.ntmps121
      go_wp2
      go_ret2
      exact ⟨rfl, rfl⟩
end Go.Proofs.YtdifamjkbagfcaaDoor
