/- What NumOf answers, the specification's: contracts. -/
import Derived.Test.YtjijinjedeinmaaDoorB
import Derived.Test.YtjijinjedeinmaaDoorIndex
namespace Go.Proofs.YtjijinjedeinmaaDoor
open Go.RowKit
open Fl

set_option maxHeartbeats 800000 in
theorem scaled_any (s : Bool) (r : Nat) (h0 : 0 < r) (hr : r < 4845873199050653696) (x : Int) (hx1 : -1200 ≤ x) (hx2 : x ≤ 1200) (w : World) :
    Calls Tryd.prog 96 #[.float .f64 (wd s r), .int .i64 x] w fun e w' => (∃ p, e = .returned (.float .f64 (wd s p)) ∧ (0 ≤ x → Dbls r x.toNat p) ∧ (x < 0 → Hlvs r (-x).toNat (-x).toNat p)) ∧ w' = w := by
  go_enter Tryd.func96, Tryd.ntmps96
  go_wp2
  go_loop [0, 1] (fun y t => ∃ (p k : Nat), y = .float .f64 (wd s p) ∧ t = .int .i64 (x - k) ∧ (0 ≤ x → (k : Int) ≤ x) ∧ (x < 0 → k = 0) ∧ Hid (Dbls r k p)) (fun _ t => (intOf t).toNat)
  case atStart => exact ⟨r, 0, rfl, by simp, fun h => by omega, fun _ => rfl, Dbls.start r h0 (by omega)⟩
  case round =>
    obtain ⟨p, k, rfl, rfl, hk, hk2, HD⟩ := hrel
    by_cases hc : 0 < x - k
    · have hb : (k : Int) ≤ x := hk (by omega)
      obtain ⟨q, hq, hm⟩ := HD.out.step h0 s
      have HQ := hide hq
      have hrun : ∀ w, (binOp .mul 24 (.float .f64 (wd s p)) (.float .f64 4611686018427387904)).run Tryd.prog w = .ok (.float .f64 (wd s q)) w := fun w => run_float_arith w .mul 24 .f64 _ _ _ hm
      have HK : Hid (x < 0 → k = 0) := hk2
      clear hq hm hk2
      go_wp2
      go_round
      case rel => exact ⟨q, k + 1, rfl, by go_num, fun _ => by omega, fun h => by omega, HQ⟩
      case measure => simp [intOf]; omega
    · have HS : Hid ((0 ≤ x → x - (k : Int) = 0 ∧ Dbls r x.toNat p) ∧ (x < 0 → ∃ j : Nat, x - (k : Int) = x + j ∧ (j : Int) ≤ -x ∧ Hlvs r (-x).toNat j p)) := by
        constructor
        · intro h
          have h1 := hk h
          have : x.toNat = k := by omega
          exact ⟨by omega, by rw [this]; exact HD.out⟩
        · intro h
          have h1 := hk2 h
          refine ⟨0, by omega, by omega, ?_⟩
          subst h1
          have h2 := (HD.out.1 (by have := val_log2_lt r (by omega) h0; omega)).2
          rw [Nat.pow_zero, Nat.mul_one] at h2
          rw [val_inj h2]
          exact Hlvs.start r _ hr
      have hz : x - (k : Int) ≤ 0 ∧ -1200 ≤ x - (k : Int) := by omega
      clear hk hk2 HD
      generalize x - (k : Int) = z at hc HS hz
      go_wp2
      go_loop [0, 1] (fun y t => ∃ (p : Nat) (z : Int), y = .float .f64 (wd s p) ∧ t = .int .i64 z ∧ z ≤ 0 ∧ -1200 ≤ z ∧ Hid ((0 ≤ x → z = 0 ∧ Dbls r x.toNat p) ∧ (x < 0 → ∃ j : Nat, z = x + j ∧ (j : Int) ≤ -x ∧ Hlvs r (-x).toNat j p))) (fun _ t => (-(intOf t)).toNat)
      case atStart => exact ⟨p, z, rfl, rfl, hz.1, hz.2, HS⟩
      case round =>
        clear hz HS hc
        obtain ⟨p, z, rfl, rfl, hz1, hz2, HS⟩ := hrel
        by_cases hc : z < 0
        · have hx : x < 0 := by
            by_cases h : x < 0
            · exact h
            · have := (HS.out.1 (by omega)).1; omega
          obtain ⟨j, hj1, hj2, hh⟩ := HS.out.2 hx
          obtain ⟨q, hq, hm⟩ := hh.step h0 (by omega) s
          have HQ := hide hq
          have HJ := hide hj1
          have hrun : ∀ w, (binOp .quo 24 (.float .f64 (wd s p)) (.float .f64 4611686018427387904)).run Tryd.prog w = .ok (.float .f64 (wd s q)) w := fun w => run_float_arith w .quo 24 .f64 _ _ _ hm
          clear hq hm hj1 hh HS
          go_wp2
          go_round
          case rel => exact ⟨q, z + 1, rfl, by go_num, by omega, by omega, ⟨fun h => by omega, fun _ => ⟨j + 1, by have := HJ.out; omega, by have := HJ.out; omega, HQ.out⟩⟩⟩
          case measure => simp [intOf]; omega
        · go_wp2
          go_ret
          refine ⟨⟨p, rfl, fun h => (HS.out.1 h).2, fun h => ?_⟩, rfl⟩
          obtain ⟨j, hj1, hj2, hh⟩ := HS.out.2 h
          have : (-x).toNat = j := by omega
          rw [this] at hh ⊢
          exact hh

/-- whether there is a number of an odd man and an exp, and its word -/
def noB (m x : Int) : Bool := decide (m.natAbs % 2 = 1 ∧ m.natAbs < 9007199254740992 ∧ -1074 ≤ x ∧ x ≤ 1200 ∧ x + (m.natAbs.log2 : Int) < 1024)
def noW (m x : Int) : Nat := if noB m x = true then wd (decide (m < 0)) (rg m.natAbs (x + 1074).toNat) else 0

theorem noW_false {m x : Int} (h : noB m x = false) : noW m x = 0 := by unfold noW; rw [h]; simp

theorem sg_self (m : Int) : sg (decide (m < 0)) m.natAbs = m := by
  by_cases h : m < 0
  · rw [decide_eq_true h]; simp [sg]; omega
  · rw [decide_eq_false h]; simp [sg]; omega

/-- float64(m) for m below 2^53 -/
theorem ofMan (m : Int) (h1 : m.natAbs < 9007199254740992) (h2 : 0 < m.natAbs) : ∃ r, 0 < r ∧ r < 4845873199050653696 ∧ val r = m.natAbs * 2 ^ E ∧ floatOfInt .f64 m = wd (decide (m < 0)) r := by
  obtain ⟨q, hq, hv, hn⟩ := ofInt m.natAbs (decide (m < 0)) h1
  refine ⟨q, ?_, ?_, hv, hn⟩
  · rcases Nat.eq_zero_or_pos q with e | e
    · subst e; rw [val_zero] at hv; have := Nat.mul_pos h2 (Nat.two_pow_pos E); omega
    · exact e
  · rw [← val_lt_iff, hv]
    have h3 := val_half 4845873199050653696 (by omega)
    have h4 := val_c 0 (by omega)
    rw [show 4845873199050653696 - 4503599627370496 = 4841369599423283200 + 0 by omega, h4] at h3
    rw [h3, ← Nat.mul_assoc]
    exact Nat.mul_lt_mul_of_pos_right (by omega) (Nat.two_pow_pos _)

theorem noB_place (m x : Int) (h : noB m x = true) (r p : Nat) (hv : val r = m.natAbs * 2 ^ E) (hd : 0 ≤ x → Dbls r x.toNat p) (hh : x < 0 → Hlvs r (-x).toNat (-x).toNat p) :
    0 < p ∧ p < 9218868437227405312 ∧ PR p m.natAbs x ∧ noW m x = wd (decide (m < 0)) p := by
  have hE := E_eq
  have hb := of_decide_eq_true h
  obtain ⟨ho, hl, hx1, hx2, hx3⟩ := hb
  have hm0 : 0 < m.natAbs := by omega
  have hlog : (val r).log2 = m.natAbs.log2 + E := by rw [hv, log2_mul_pow _ _ hm0]
  have key : p < 9218868437227405312 ∧ ∃ a b : Nat, x = (a : Int) - b ∧ val p * 2 ^ b = m.natAbs * 2 ^ E * 2 ^ a := by
    by_cases hx : 0 ≤ x
    · have := (hd hx).1 (by omega)
      exact ⟨this.1, x.toNat, 0, by omega, by rw [Nat.pow_zero, Nat.mul_one, this.2, hv]⟩
    · have h1 := hh (by omega)
      have h2 : val r % 2 ^ (-x).toNat = 0 := by
        rw [hv, show E = (E - (-x).toNat) + (-x).toNat by omega, Nat.pow_add, ← Nat.mul_assoc]
        exact Nat.mul_mod_left _ _
      have h3 := h1.2 h2
      exact ⟨by have := h1.1; omega, 0, (-x).toNat, by omega, by rw [h3, hv, Nat.pow_zero, Nat.mul_one]⟩
  obtain ⟨hp, a, b, hab, hpv⟩ := key
  have hp0 : 0 < p := by
    rcases Nat.eq_zero_or_pos p with e | e
    · subst e; rw [val_zero, Nat.zero_mul] at hpv
      have := Nat.mul_pos (Nat.mul_pos hm0 (Nat.two_pow_pos E)) (Nat.two_pow_pos a); omega
    · exact e
  have hpr := pr_of p m.natAbs a b hp hp0 ho hl hpv
  rw [← hab] at hpr
  refine ⟨hp0, hp, hpr, ?_⟩
  unfold noW
  rw [if_pos h]
  have e : rg m.natAbs (x + 1074).toNat = p := val_inj (by rw [val_rg _ _ hm0 hl, hpr.2.2.2.2])
  rw [e]

theorem ne_place {p q : Nat} {x x' : Int} (h : PR p q x') (hx : x < -1074) : (x' != x) = true := by
  have h1 := h.2.2.1
  have : ¬ x' = x := by omega
  simpa using this
theorem tmod_odd (m : Int) (h : m.natAbs % 2 = 1) : (m.tmod 2 == 0) = false := by
  have h1 := sg_rem (decide (m < 0)) m.natAbs
  rw [sg_self, h] at h1
  rw [h1]
  by_cases hm : m < 0
  · rw [decide_eq_true hm]; rfl
  · rw [decide_eq_false hm]; rfl
theorem tmod_even (m : Int) (h : m.natAbs % 2 = 0) : (m.tmod 2 == 0) = true := by
  have h1 := sg_rem (decide (m < 0)) m.natAbs
  rw [sg_self, h, sg_zero] at h1
  rw [h1]; rfl

set_option maxHeartbeats 1000000 in
theorem snumof_any (m x : Int) (hm1 : -9223372036854775808 ≤ m) (hm2 : m ≤ 9223372036854775807) (w : World) :
    Calls Tryd.prog 54 #[.int .i64 m, .int .i64 x] w fun e w' => e = .returned (.tuple #[.float .f64 (noW m x), .bool (noB m x)]) ∧ ∃ n, w' = w.drewN n := by
  by_cases ho : m.natAbs % 2 = 1
  · have ht := tmod_odd m ho
    by_cases hl : -9007199254740991 ≤ m ∧ m ≤ 9007199254740991
    · have hin : decide (-9007199254740991 ≤ m ∧ m ≤ 9007199254740991) = true := decide_eq_true hl
      by_cases hx : -1200 ≤ x ∧ x ≤ 1200
      · have hin2 : decide (-1200 ≤ x ∧ x ≤ 1200) = true := decide_eq_true hx
        obtain ⟨r, h0, hr, hv, hf⟩ := ofMan m (by omega) (by omega)
        have HV := hide hv
        have HO := hide ho
        have HL := hide hl
        have HX := hide hx
        clear hv ho hl hx
        cases hb : noB m x
        · rw [noW_false hb]
          have HB := hide hb
          clear hb
          go_enter Tryd.func54, Tryd.ntmps54
          go_wp2_with (first | (go_at_call 56; refine (l1in_any _ _ _ _).mono ?_; rintro e w' ⟨rfl, rfl⟩) | (go_at_call 96; refine (scaled_any _ r h0 hr x HX.out.1 HX.out.2 _).mono ?_; rintro e w' ⟨⟨p, rfl, hd, hh⟩, rfl⟩))
          have HD := hide hd
          have HH := hide hh
          clear hd hh
          by_cases hx0 : 0 ≤ x
          · have hp : p = 9218868437227405312 := by
              refine (HD.out hx0).2 ?_
              have hE := E_eq
              have hv := HV.out
              have hlog : (val r).log2 = m.natAbs.log2 + E := by rw [hv, log2_mul_pow _ _ (by have := HO.out; omega)]
              have h1 := of_decide_eq_false HB.out
              have h2 := HX.out
              have h3 := HO.out
              have h4 := HL.out
              have h5 : ¬ (x + (m.natAbs.log2 : Int) < 1024) := fun h => h1 ⟨h3, by omega, by omega, by omega, h⟩
              omega
            subst hp
            go_wp2_with (go_at_call 92; refine (inf_any _ _ (by omega) _).mono ?_; rintro e w' ⟨rfl, n, rfl⟩)
            go_ret2
            exact ⟨rfl, _, rfl⟩
          · have hx1 : x < -1074 := by
              have h1 := of_decide_eq_false HB.out
              have h2 := HX.out
              have h3 := HO.out
              have h4 := HL.out
              have h6 := (Nat.log2_lt (n := m.natAbs) (k := 53) (by omega)).2 (by rw [p53]; omega)
              by_cases h : x < -1074
              · exact h
              · exact absurd ⟨h3, by omega, by omega, by omega, by omega⟩ h1
            have hp := (HH.out (by omega)).1
            have e1 := eq0 (decide (m < 0)) p (by omega)
            have hni : decide (p = 9218868437227405312) = false := decide_eq_false (by omega)
            by_cases hp0 : p = 0
            · rw [decide_eq_true hp0] at e1
              have HP := hide hp0
              clear hp0
              go_wp2_with (go_at_call 92; refine (inf_any _ _ (by omega) _).mono ?_; rintro e w' ⟨rfl, n, rfl⟩)
              go_ret2
              exact ⟨rfl, _, rfl⟩
            · rw [decide_eq_false hp0] at e1
              go_wp2_with (first | (go_at_call 92; refine (inf_any _ _ (by omega) _).mono ?_; rintro e w' ⟨rfl, n, rfl⟩) | (go_at_call 47; refine (parts_any _ p (by omega) (by omega) _).mono ?_; rintro e w' ⟨⟨q, x', rfl, hpr⟩, rfl⟩; have hne : (x' != x) = true := ne_place hpr hx1))
              all_goals
                go_ret2
                exact ⟨rfl, _, rfl⟩
        · have HB := hide hb
          clear hb
          have hsm := sg_self m
          go_enter Tryd.func54, Tryd.ntmps54
          go_wp2_with (first | (go_at_call 56; refine (l1in_any _ _ _ _).mono ?_; rintro e w' ⟨rfl, rfl⟩) | (go_at_call 96; refine (scaled_any _ r h0 hr x HX.out.1 HX.out.2 _).mono ?_; rintro e w' ⟨⟨p, rfl, hd, hh⟩, rfl⟩))
          obtain ⟨hp0, hp, hpr, hw⟩ := noB_place m x HB.out r p HV.out hd hh
          have HP := hide hpr
          have HW := hide hw
          have e1 := eq0 (decide (m < 0)) p (by omega)
          rw [decide_eq_false (show ¬ p = 0 by omega)] at e1
          have hni : decide (p = 9218868437227405312) = false := decide_eq_false (by omega)
          clear hd hh hpr hw
          go_wp2_with (first | (go_at_call 92; refine (inf_any _ _ (by omega) _).mono ?_; rintro e w' ⟨rfl, n, rfl⟩) | (go_at_call 47; refine (parts_any _ p (by omega) (by omega) _).mono ?_; rintro e w' ⟨⟨q, x', rfl, hpr⟩, rfl⟩; obtain ⟨rfl, rfl⟩ := pr_unique hpr HP.out; rw [hsm]))
          go_ret2
          refine ⟨?_, _, rfl⟩
          rw [HW.out]
          rfl
      · have hin2 : decide (-1200 ≤ x ∧ x ≤ 1200) = false := decide_eq_false hx
        have hb : noB m x = false := decide_eq_false (fun h => hx ⟨by omega, h.2.2.2.1⟩)
        rw [noW_false hb, hb]
        clear hb hx hl ho
        go_enter Tryd.func54, Tryd.ntmps54
        go_wp2_with (go_at_call 56; refine (l1in_any _ _ _ _).mono ?_; rintro e w' ⟨rfl, rfl⟩)
        go_ret2
        exact ⟨rfl, 0, rfl⟩
    · have hin : decide (-9007199254740991 ≤ m ∧ m ≤ 9007199254740991) = false := decide_eq_false hl
      have hb : noB m x = false := decide_eq_false (fun h => hl ⟨by have := h.2.1; omega, by have := h.2.1; omega⟩)
      rw [noW_false hb, hb]
      clear hb hl ho
      go_enter Tryd.func54, Tryd.ntmps54
      go_wp2_with (go_at_call 56; refine (l1in_any _ _ _ _).mono ?_; rintro e w' ⟨rfl, rfl⟩)
      go_ret2
      exact ⟨rfl, 0, rfl⟩
  · have ht := tmod_even m (by omega)
    have hb : noB m x = false := decide_eq_false (fun h => ho h.1)
    rw [noW_false hb, hb]
    clear hb ho
    go_enter Tryd.func54, Tryd.ntmps54
    go_wp2_with (go_at_call 56; refine (l1in_any _ _ _ _).mono ?_; rintro e w' ⟨rfl, rfl⟩)
    go_ret2
    exact ⟨rfl, 0, rfl⟩
end Go.Proofs.YtjijinjedeinmaaDoor
