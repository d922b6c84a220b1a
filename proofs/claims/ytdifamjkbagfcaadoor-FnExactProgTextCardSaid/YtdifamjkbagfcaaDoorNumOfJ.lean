/- What NumOf answers, the program's: contract. -/
import Derived.Test.YtdifamjkbagfcaaDoorLdexp
namespace Go.Proofs.YtdifamjkbagfcaaDoor
open Go.RowKit
open Fl

theorem bitLen_pos (n : Nat) (h : 0 < n) : bitLen n = n.log2 + 1 := by unfold bitLen; rw [if_neg (by omega)]

theorem field_of (r m : Nat) (hm : 0 < m) (hl : m < 9007199254740992) (hv : val r = m * 2 ^ E) : 4503599627370496 ≤ r ∧ r / 4503599627370496 = m.log2 + 1023 := by
  have hE := E_eq
  have h1 : (val r).log2 = m.log2 + E := by rw [hv, log2_mul_pow _ _ hm]
  have hr : 4503599627370496 ≤ r := by
    rcases Nat.lt_or_ge r 4503599627370496 with h | h
    · exfalso
      have e : val r = r := by unfold val; rw [if_pos h]
      have h2 : 0 < r := by
        rcases Nat.eq_zero_or_pos r with h0 | h0
        · subst h0; rw [val_zero] at hv; have := Nat.mul_pos hm (Nat.two_pow_pos E); omega
        · exact h0
      have h3 := (Nat.log2_lt (n := r) (k := 52) (by omega)).2 (by rw [p52]; exact h)
      rw [e] at h1
      omega
    · exact h
  refine ⟨hr, ?_⟩
  rw [val_fieldL r hr, log2_mul_pow _ _ (by omega)] at h1
  have h4 : (4503599627370496 + r % 4503599627370496).log2 = 52 := by
    refine (Nat.log2_eq_iff (by omega)).2 ⟨?_, ?_⟩
    · rw [p52]; omega
    · rw [p53]; omega
  have h5 := (Nat.log2_lt (n := m) (k := 53) (by omega)).2 (by rw [p53]; exact hl)
  omega

theorem inumof_even (m : Int) (h : m.natAbs % 2 = 0) : (m % 2 == 0) = true := by
  have : m % 2 = 0 := by omega
  simpa using this
theorem inumof_odd (m : Int) (h : m.natAbs % 2 = 1) : (m % 2 == 0) = false := by
  have : ¬ m % 2 = 0 := by omega
  simpa using this

theorem noW_wd (m x : Int) : ∃ s r, r < 9223372036854775808 ∧ noW m x = wd s r := by
  cases h : noB m x
  · exact ⟨false, 0, by omega, by rw [noW_false h]; rfl⟩
  · have hb := of_decide_eq_true h
    refine ⟨decide (m < 0), rg m.natAbs (x + 1074).toNat, ?_, by unfold noW; rw [if_pos h]⟩
    have := rg_lt m.natAbs (x + 1074).toNat (by omega) hb.2.1 (by omega)
    omega
end Go.Proofs.YtdifamjkbagfcaaDoor
