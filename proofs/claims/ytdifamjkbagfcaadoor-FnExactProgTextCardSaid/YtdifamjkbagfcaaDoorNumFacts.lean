/- The laws' own sameNum, and what is so of the order of numbers. -/
import Derived.Test.YtdifamjkbagfcaaDoorLeast
namespace Go.Proofs.YtdifamjkbagfcaaDoor
open Go.RowKit
open Fl

theorem ne0 (s : Bool) (r : Nat) (hr : r ≤ 9218868437227405312) : (FloatKind.f64.format.order (wd s r) 0 != some Ordering.eq) = decide (r ≠ 0) := by
  rw [bne, eq0 s r hr]
  by_cases h : r = 0 <;> simp [h]

theorem sameB_comm (s t : Bool) (r q : Nat) : sameB s r t q = sameB t q s r := by
  by_cases h1 : 9218868437227405312 < r <;> by_cases h2 : 9218868437227405312 < q
  · rw [sameB_nn s t r q h1 h2, sameB_nn t s q r h2 h1]
  · rw [sameB_nl s t r q h1 h2, sameB_ln t s q r h2 h1]
  · rw [sameB_ln s t r q h1 h2, sameB_nl t s q r h2 h1]
  · simp only [sameB, h1, h2, or_self, if_false]
    have e : (s = t ∧ r = q) ↔ (t = s ∧ q = r) := ⟨fun h => ⟨h.1.symm, h.2.symm⟩, fun h => ⟨h.1.symm, h.2.symm⟩⟩
    exact decide_eq_decide.2 e

theorem cmp_self (s : Bool) (r : Nat) : cmpN s r s r = 0 := by unfold cmpN; rw [if_pos (sameB_refl s r)]
theorem cmp_same (s t : Bool) (r q : Nat) : (cmpN s r t q = 0) ↔ sameB s r t q = true := by
  unfold cmpN
  constructor
  · intro h
    split at h
    · assumption
    · exfalso
      repeat' split at h
      all_goals omega
  · intro h; rw [if_pos h]
theorem cmp_cases (s t : Bool) (r q : Nat) : cmpN s r t q = 0 ∨ cmpN s r t q = 1 ∨ cmpN s r t q = -1 := by
  unfold cmpN
  repeat' split
  all_goals simp
theorem cmp_anti (s t : Bool) (r q : Nat) : cmpN t q s r = -cmpN s r t q := by
  cases hs : sameB s r t q
  · have hs' : sameB t q s r = false := by rw [← sameB_comm]; exact hs
    have hne : ¬ (9218868437227405312 < r ∧ 9218868437227405312 < q) := by
      intro h; rw [sameB_nn s t r q h.1 h.2] at hs; cases hs
    by_cases h1 : 9218868437227405312 < r
    · have h2 : ¬ 9218868437227405312 < q := fun h => hne ⟨h1, h⟩
      simp [cmpN, hs, hs', h1, h2]
    · by_cases h2 : 9218868437227405312 < q
      · simp [cmpN, hs, hs', h1, h2]
      · rcases Int.lt_trichotomy (sr s r) (sr t q) with h | h | h
        · have h3 : ¬ sr t q < sr s r := by omega
          simp [cmpN, hs, hs', h1, h2, h, h3]
        · have h3 := (sr_eq_iff s t r q).1 h
          have h4 : s ≠ t := by
            intro e; subst e
            obtain ⟨e2, _⟩ := h3
            subst e2
            rw [sameB_refl] at hs; cases hs
          simp only [cmpN, hs, hs', h1, h2, h, Int.lt_irrefl, if_false, Bool.false_eq_true]
          cases s <;> cases t <;> simp_all
        · have h3 : ¬ sr s r < sr t q := by omega
          simp [cmpN, hs, hs', h1, h2, h, h3]
  · rw [(cmp_same s t r q).2 hs, (cmp_same t s q r).2 (by rw [← sameB_comm]; exact hs)]; rfl
/-- A number below another is told to be less. -/
theorem lt_cmp (s t : Bool) (r q : Nat) (hr : r < 9223372036854775808) (hq : q < 9223372036854775808) (h : (FloatKind.f64.format.order (wd s r) (wd t q) == some Ordering.lt) = true) : cmpN s r t q = -1 := by
  by_cases h1 : 9218868437227405312 < r
  · rw [(cmp_nan s r .lt hr h1 (wd t q)).1] at h; cases h
  · by_cases h2 : 9218868437227405312 < q
    · rw [(cmp_nan t q .lt hq h2 (wd s r)).2] at h; cases h
    · rw [cmp_lt s t r q (by omega) (by omega)] at h
      have h3 : sr s r < sr t q := of_decide_eq_true h
      have hs : ¬ sameB s r t q = true := by
        intro e
        rcases sameB_cases s t r q e with h4 | h4
        · exact h1 h4.1
        · obtain ⟨_, e1, e2⟩ := h4
          subst e1; subst e2; omega
      unfold cmpN
      rw [if_neg hs, if_neg h1, if_neg h2, if_pos h3]
end Go.Proofs.YtdifamjkbagfcaaDoor
