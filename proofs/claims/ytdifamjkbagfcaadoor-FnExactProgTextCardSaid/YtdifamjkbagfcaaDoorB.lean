/- More arithmetic of doubles as rungs: scaling by powers of two. -/
import Derived.Test.YtdifamjkbagfcaaDoorFl
namespace Go.Proofs.YtdifamjkbagfcaaDoor
namespace Fl
open Ieee

theorem val_inf_log2 : (val 9218868437227405312).log2 = 2098 := by
  have e1 : mg 9218868437227405312 = 2 ^ 52 := by rw [p52]; rfl
  have e2 : up 9218868437227405312 = E + 972 := by have := E_eq; rw [this]; rfl
  rw [val_eq, e1, e2, ← Nat.pow_add, Nat.log2_two_pow, E_eq]

theorem lt_inf_of_log2 (q : Nat) (h : (val q).log2 < 2098) : q < 9218868437227405312 := by
  rcases Nat.lt_or_ge q 9218868437227405312 with h1 | h1
  · exact h1
  · exfalso
    have h2 := val_le_iff.2 h1
    have h3 : (val 9218868437227405312).log2 ≤ (val q).log2 := by
      have hp := val_pos 9218868437227405312 (by omega)
      rw [Nat.le_log2 (by omega)]
      exact Nat.le_trans (Nat.log2_self_le (by omega)) h2
    rw [val_inf_log2] at h3
    omega

/-- What is left of a number behind k doublings. -/
def Dbls (r k p : Nat) : Prop := ((val r).log2 + k < 2098 → p < 9218868437227405312 ∧ val p = val r * 2 ^ k) ∧ (2098 ≤ (val r).log2 + k → p = 9218868437227405312)

theorem Dbls.le {r k p : Nat} (h : Dbls r k p) : p ≤ 9218868437227405312 := by
  rcases Nat.lt_or_ge ((val r).log2 + k) 2098 with h1 | h1
  · have := (h.1 h1).1; omega
  · have := h.2 h1; omega

theorem Dbls.start (r : Nat) (h0 : 0 < r) (hr : r < 9218868437227405312) : Dbls r 0 r := by
  have := val_log2_lt r hr h0
  exact ⟨fun _ => ⟨hr, by rw [Nat.pow_zero, Nat.mul_one]⟩, fun h => by omega⟩

theorem Dbls.step {r k p : Nat} (h0 : 0 < r) (h : Dbls r k p) (s : Bool) : ∃ q, Dbls r (k + 1) q ∧ double.mul (wd s p) 4611686018427387904 = some (wd s q) := by
  rcases Nat.lt_or_ge ((val r).log2 + k) 2098 with h1 | h1
  · obtain ⟨hp, hv⟩ := h.1 h1
    refine ⟨min (dbl p) 9218868437227405312, ?_, mul_two s p hp⟩
    have hd : val (dbl p) = val r * 2 ^ (k + 1) := by rw [val_dbl, hv, Nat.pow_succ, Nat.mul_comm 2, Nat.mul_assoc]
    have hl : (val (dbl p)).log2 = (val r).log2 + (k + 1) := by rw [hd, log2_mul_pow _ _ (val_pos r h0)]
    rcases Nat.lt_or_ge ((val r).log2 + (k + 1)) 2098 with h2 | h2
    · have h3 := lt_inf_of_log2 (dbl p) (by omega)
      rw [Nat.min_eq_left (by omega)]
      exact ⟨fun _ => ⟨h3, hd⟩, fun h => by omega⟩
    · have hp0 : 0 < dbl p := by
        rcases Nat.eq_zero_or_pos (dbl p) with e | e
        · rw [e, val_zero] at hd
          have := Nat.mul_pos (val_pos r h0) (Nat.two_pow_pos (k + 1)); omega
        · exact e
      have h3 : 9218868437227405312 ≤ dbl p := by
        rcases Nat.lt_or_ge (dbl p) 9218868437227405312 with h4 | h4
        · have := val_log2_lt (dbl p) h4 hp0; omega
        · exact h4
      rw [Nat.min_eq_right h3]
      exact ⟨fun h => by omega, fun _ => rfl⟩
  · have hp := h.2 h1
    subst hp
    exact ⟨9218868437227405312, ⟨fun h => by omega, fun _ => rfl⟩, mul_two_inf s⟩

theorem half_exact (p : Nat) (h0 : 0 < p) (h : val p % 2 = 0) : ∃ q, 0 < q ∧ q ≤ p ∧ val p = 2 * val q := by
  rcases Nat.lt_or_ge p 9007199254740992 with h1 | h1
  · have e : ∀ r, r < 9007199254740992 → val r = r := by
      intro r hr
      unfold val
      split
      · rfl
      · rw [show r / 4503599627370496 - 1 = 0 by omega, Nat.pow_zero, Nat.mul_one]; omega
    rw [e p h1] at h ⊢
    refine ⟨p / 2, by omega, by omega, ?_⟩
    rw [e (p / 2) (by omega)]; omega
  · exact ⟨p - 4503599627370496, by omega, by omega, val_half p h1⟩

theorem nearest_le (s : Bool) (m : Nat) (p : Int) (j : Nat) (h : p + (m.log2 : Int) + 1022 ≤ j) : ∃ r, r ≤ (j + 2) * 4503599627370496 ∧ double.nearest s m p = wd s r := by
  unfold Format.nearest
  by_cases h0 : m = 0
  · exact ⟨0, by omega, by rw [if_pos h0, word_eq]⟩
  rw [if_neg h0]
  have hb : double.binade = 4503599627370496 := rfl
  have hi : double.infRung = 9218868437227405312 := rfl
  have hl : double.leastPlace = -1074 := rfl
  have hf : ((double.fractionBits : Nat) : Int) = 52 := rfl
  simp only [hb, hi, hl, hf, word_eq, Nat.shiftLeft_eq]
  refine ⟨_, ?_, rfl⟩
  have hk : Toward.even.cut s (m * 2 ^ (p - max (p + (m.log2 : Int) - 52) (-1074)).toNat) (max (p + (m.log2 : Int) - 52) (-1074) - p).toNat ≤ 9007199254740992 := by
    have hlt : m < 2 ^ (m.log2 + 1) := Nat.lt_log2_self
    generalize hL : max (p + (m.log2 : Int) - 52) (-1074) = last
    by_cases hc : last ≤ p
    · have e2 : (last - p).toNat = 0 := by omega
      rw [e2, cut_exact2 s _ (m * 2 ^ (p - last).toNat) 0 (Nat.mul_pos (by omega) (Nat.two_pow_pos _)) (by simp)]
      have h1 := Nat.mul_le_mul_right (2 ^ (p - last).toNat) (Nat.le_of_lt hlt)
      rw [← Nat.pow_add] at h1
      have h3 : 2 ^ (m.log2 + 1 + (p - last).toNat) ≤ 2 ^ 53 := Nat.pow_le_pow_right (by omega) (by omega)
      rw [p53] at h3
      exact Nat.le_trans h1 h3
    · have e1 : (p - last).toNat = 0 := by omega
      rw [e1, Nat.pow_zero, Nat.mul_one]
      unfold Toward.cut
      simp only [Nat.shiftLeft_eq, Nat.one_mul]
      have h4 : ∀ b : Bool, b.toNat ≤ 1 := by decide
      refine Nat.le_trans (Nat.add_le_add_left (h4 _) _) ?_
      have h5 : m / 2 ^ min (last - p).toNat (m.log2 + 2) < 9007199254740992 := by
        rw [Nat.div_lt_iff_lt_mul (Nat.two_pow_pos _)]
        refine Nat.lt_of_lt_of_le hlt ?_
        rw [← p53, ← Nat.pow_add]
        exact Nat.pow_le_pow_right (by omega) (by omega)
      omega
  generalize Toward.even.cut s _ _ = k at hk ⊢
  have : (max (p + (m.log2 : Int) - 52) (-1074) - -1074).toNat ≤ j := by omega
  generalize (max (p + (m.log2 : Int) - 52) (-1074) - -1074).toNat = i at this ⊢
  have h6 : i * 4503599627370496 ≤ j * 4503599627370496 := Nat.mul_le_mul_right _ this
  have h7 : (j + 2) * 4503599627370496 = j * 4503599627370496 + 9007199254740992 := by rw [Nat.add_mul]
  have h8 : i * 4503599627370496 + k ≤ (j + 2) * 4503599627370496 := by rw [h7]; exact Nat.add_le_add h6 hk
  have h9 : min (i * 4503599627370496 + k) 9218868437227405312 ≤ i * 4503599627370496 + k := Nat.min_le_left (i * 4503599627370496 + k) 9218868437227405312
  generalize i * 4503599627370496 + k = y at h8 h9 ⊢
  exact Nat.le_trans h9 h8

/-- A number behind a halving is no greater than it was, or than the least normal numbers. -/
theorem div_two_le (s : Bool) (r : Nat) (hr : r < 4845873199050653696) : ∃ q, q < 4845873199050653696 ∧ double.div (wd s r) 4611686018427387904 = some (wd s q) := by
  rw [div_two s r (by omega)]
  have hg : (mg r).log2 ≤ 52 := by
    rcases Nat.eq_zero_or_pos (mg r) with e | e
    · rw [e]; simp
    · have := (Nat.log2_lt (n := mg r) (k := 53) (by omega)).2 (by rw [p53]; exact mg_lt r)
      omega
  have hu : up r ≤ 1074 := by unfold up; split <;> omega
  obtain ⟨q, hq, he⟩ := nearest_le s (2 * (mg r * 2 ^ (106 - (mg r).log2 - 52))) (-1074 + (up r : Int) + 51 - (106 - (mg r).log2 : Nat) - 1) 1073 (by
    rcases Nat.eq_zero_or_pos (mg r) with e | e
    · rw [e]; simp; omega
    · rw [show 2 * (mg r * 2 ^ (106 - (mg r).log2 - 52)) = mg r * 2 ^ (106 - (mg r).log2 - 52 + 1) by rw [Nat.pow_succ]; simp only [Nat.mul_left_comm, Nat.mul_comm], log2_mul_pow _ _ e]
      omega)
  exact ⟨q, by omega, by rw [he]⟩

/-- What is left of a number behind j of J halvings: exact where 2 ^ J goes into it. -/
def Hlvs (r J j p : Nat) : Prop := p < 4845873199050653696 ∧ (val r % 2 ^ J = 0 → val p * 2 ^ j = val r)

theorem Hlvs.start (r J : Nat) (hr : r < 4845873199050653696) : Hlvs r J 0 r := ⟨hr, fun _ => by rw [Nat.pow_zero, Nat.mul_one]⟩

theorem Hlvs.step {r J j p : Nat} (h0 : 0 < r) (hj : j < J) (h : Hlvs r J j p) (s : Bool) : ∃ q, Hlvs r J (j + 1) q ∧ double.div (wd s p) 4611686018427387904 = some (wd s q) := by
  obtain ⟨hp, hx⟩ := h
  by_cases hd : val r % 2 ^ J = 0
  · have hv := hx hd
    have hp0 : 0 < p := by
      rcases Nat.eq_zero_or_pos p with e | e
      · subst e; rw [val_zero, Nat.zero_mul] at hv; have := val_pos r h0; omega
      · exact e
    have he : val p % 2 = 0 := by
      obtain ⟨c, hc⟩ := Nat.dvd_of_mod_eq_zero hd
      have h3 : val p = 2 ^ (J - j) * c := by
        refine Nat.eq_of_mul_eq_mul_right (Nat.two_pow_pos j) ?_
        rw [hv, hc, Nat.mul_right_comm, ← Nat.pow_add, show J - j + j = J by omega]
      rw [h3, show J - j = (J - j - 1) + 1 by omega, Nat.pow_succ, Nat.mul_comm _ 2, Nat.mul_assoc]
      exact Nat.mul_mod_right 2 _
    obtain ⟨q, hq0, hqp, hq⟩ := half_exact p hp0 he
    refine ⟨q, ⟨by omega, fun _ => ?_⟩, div_two_exact s p q (by omega) hq0 (by omega) hq⟩
    rw [← hv, hq, Nat.pow_succ, Nat.mul_comm (2 ^ j) 2, ← Nat.mul_assoc, Nat.mul_comm (val q) 2]
  · obtain ⟨q, hq, he⟩ := div_two_le s p hp
    exact ⟨q, ⟨hq, fun h => absurd h hd⟩, he⟩
end Fl
end Go.Proofs.YtdifamjkbagfcaaDoor
