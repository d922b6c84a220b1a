/- What NumOf answers, the specification's: contracts. -/
import Derived.Test.YtdifamjkbagfcaaDoorB
import Derived.Test.YtdifamjkbagfcaaDoorIndex
namespace Go.Proofs.YtdifamjkbagfcaaDoor
open Go.RowKit
open Fl

/-- whether there is a number of an odd man and an exp, and its word -/
def noB (m x : Int) : Bool := decide (m.natAbs % 2 = 1 ∧ m.natAbs < 9007199254740992 ∧ -1074 ≤ x ∧ x ≤ 1200 ∧ x + (m.natAbs.log2 : Int) < 1024)
def noW (m x : Int) : Nat := if noB m x = true then wd (decide (m < 0)) (rg m.natAbs (x + 1074).toNat) else 0

theorem noW_false {m x : Int} (h : noB m x = false) : noW m x = 0 := by unfold noW; rw [h]; simp

theorem sg_self (m : Int) : sg (decide (m < 0)) m.natAbs = m := by
  by_cases h : m < 0
  · rw [decide_eq_true h]; simp [sg]; omega
  · rw [decide_eq_false h]; simp [sg]; omega

/-- float64(m) for m below 2^53 -/
theorem ofMan (m : Int) (h1 : m.natAbs < 9007199254740992) (h2 : 0 < m.natAbs) : ∃ r, 0 < r ∧ r < 4845873199050653696 ∧ val r = m.natAbs * 2 ^ E ∧ floatOfInt .f64 m = wd (decide (m < 0)) r := by
  obtain ⟨q, hq, hv, hn⟩ := ofInt m.natAbs (decide (m < 0)) h1
  refine ⟨q, ?_, ?_, hv, hn⟩
  · rcases Nat.eq_zero_or_pos q with e | e
    · subst e; rw [val_zero] at hv; have := Nat.mul_pos h2 (Nat.two_pow_pos E); omega
    · exact e
  · rw [← val_lt_iff, hv]
    have h3 := val_half 4845873199050653696 (by omega)
    have h4 := val_c 0 (by omega)
    rw [show 4845873199050653696 - 4503599627370496 = 4841369599423283200 + 0 by omega, h4] at h3
    rw [h3, ← Nat.mul_assoc]
    exact Nat.mul_lt_mul_of_pos_right (by omega) (Nat.two_pow_pos _)

theorem noB_place (m x : Int) (h : noB m x = true) (r p : Nat) (hv : val r = m.natAbs * 2 ^ E) (hd : 0 ≤ x → Dbls r x.toNat p) (hh : x < 0 → Hlvs r (-x).toNat (-x).toNat p) :
    0 < p ∧ p < 9218868437227405312 ∧ PR p m.natAbs x ∧ noW m x = wd (decide (m < 0)) p := by
  have hE := E_eq
  have hb := of_decide_eq_true h
  obtain ⟨ho, hl, hx1, hx2, hx3⟩ := hb
  have hm0 : 0 < m.natAbs := by omega
  have hlog : (val r).log2 = m.natAbs.log2 + E := by rw [hv, log2_mul_pow _ _ hm0]
  have key : p < 9218868437227405312 ∧ ∃ a b : Nat, x = (a : Int) - b ∧ val p * 2 ^ b = m.natAbs * 2 ^ E * 2 ^ a := by
    by_cases hx : 0 ≤ x
    · have := (hd hx).1 (by omega)
      exact ⟨this.1, x.toNat, 0, by omega, by rw [Nat.pow_zero, Nat.mul_one, this.2, hv]⟩
    · have h1 := hh (by omega)
      have h2 : val r % 2 ^ (-x).toNat = 0 := by
        rw [hv, show E = (E - (-x).toNat) + (-x).toNat by omega, Nat.pow_add, ← Nat.mul_assoc]
        exact Nat.mul_mod_left _ _
      have h3 := h1.2 h2
      exact ⟨by have := h1.1; omega, 0, (-x).toNat, by omega, by rw [h3, hv, Nat.pow_zero, Nat.mul_one]⟩
  obtain ⟨hp, a, b, hab, hpv⟩ := key
  have hp0 : 0 < p := by
    rcases Nat.eq_zero_or_pos p with e | e
    · subst e; rw [val_zero, Nat.zero_mul] at hpv
      have := Nat.mul_pos (Nat.mul_pos hm0 (Nat.two_pow_pos E)) (Nat.two_pow_pos a); omega
    · exact e
  have hpr := pr_of p m.natAbs a b hp hp0 ho hl hpv
  rw [← hab] at hpr
  refine ⟨hp0, hp, hpr, ?_⟩
  unfold noW
  rw [if_pos h]
  have e : rg m.natAbs (x + 1074).toNat = p := val_inj (by rw [val_rg _ _ hm0 hl, hpr.2.2.2.2])
  rw [e]

theorem ne_place {p q : Nat} {x x' : Int} (h : PR p q x') (hx : x < -1074) : (x' != x) = true := by
  have h1 := h.2.2.1
  have : ¬ x' = x := by omega
  simpa using this
theorem tmod_odd (m : Int) (h : m.natAbs % 2 = 1) : (m.tmod 2 == 0) = false := by
  have h1 := sg_rem (decide (m < 0)) m.natAbs
  rw [sg_self, h] at h1
  rw [h1]
  by_cases hm : m < 0
  · rw [decide_eq_true hm]; rfl
  · rw [decide_eq_false hm]; rfl
theorem tmod_even (m : Int) (h : m.natAbs % 2 = 0) : (m.tmod 2 == 0) = true := by
  have h1 := sg_rem (decide (m < 0)) m.natAbs
  rw [sg_self, h, sg_zero] at h1
  rw [h1]; rfl

end Go.Proofs.YtdifamjkbagfcaaDoor
