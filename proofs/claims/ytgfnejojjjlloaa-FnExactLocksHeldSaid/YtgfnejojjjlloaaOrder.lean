/- What IsMinus, SameNum and CompareNum answer, the specification's and the program's: contracts. -/
import Derived.Test.YtgfnejojjjlloaaKind
namespace Go.Proofs.Ytgfnejojjjlloaa
open Go.RowKit
open Fl

def minusB (s : Bool) (r : Nat) : Bool := s && decide (r ≤ 9218868437227405312)

theorem sign_word (s : Bool) (r : Nat) (hr : r < 9223372036854775808) : decide (wrap64 ((wd s r : Nat) : Int) < 0) = s := by
  cases s <;> simp [wrap64, wd] <;> omega

/-- whether two are the same -/
def sameB (s : Bool) (r : Nat) (t : Bool) (q : Nat) : Bool :=
  if 9218868437227405312 < r ∨ 9218868437227405312 < q then decide (9218868437227405312 < r ∧ 9218868437227405312 < q) else decide (s = t ∧ r = q)

theorem wd_inj (s t : Bool) (r q : Nat) (hr : r < 9223372036854775808) (hq : q < 9223372036854775808) : wd s r = wd t q ↔ s = t ∧ r = q := by
  cases s <;> cases t <;> simp [wd] <;> omega

theorem sameB_nn (s t : Bool) (r q : Nat) (h1 : 9218868437227405312 < r) (h2 : 9218868437227405312 < q) : sameB s r t q = true := by simp [sameB, h1, h2]
theorem sameB_nl (s t : Bool) (r q : Nat) (h1 : 9218868437227405312 < r) (h2 : ¬ 9218868437227405312 < q) : sameB s r t q = false := by simp [sameB, h1, h2]
theorem sameB_ln (s t : Bool) (r q : Nat) (h1 : ¬ 9218868437227405312 < r) (h2 : 9218868437227405312 < q) : sameB s r t q = false := by simp [sameB, h1, h2]
theorem sameB_word (s t : Bool) (r q : Nat) (hr : r < 9223372036854775808) (hq : q < 9223372036854775808) (h1 : ¬ 9218868437227405312 < r) (h2 : ¬ 9218868437227405312 < q) :
    sameB s r t q = (((wd s r : Nat) : Int) == ((wd t q : Nat) : Int)) := by
  have := wd_inj s t r q hr hq
  rw [Bool.eq_iff_iff]
  simp only [sameB, h1, h2, or_self, if_false, decide_eq_true_eq, ← this, beq_iff_eq]
  omega

theorem sr_eq_iff (s t : Bool) (r q : Nat) : sr s r = sr t q ↔ (r = q ∧ (s = t ∨ r = 0)) := by
  cases s <;> cases t <;> simp [sr] <;> omega

theorem sameB_num (s t : Bool) (r q : Nat) (h2 : ¬ 9218868437227405312 < q) (h : sr s r = sr t q) :
    sameB s r t q = (s == t) := by
  have h3 := (sr_eq_iff s t r q).1 h
  rw [Bool.eq_iff_iff]
  simp only [sameB, h2, or_self, if_false, decide_eq_true_eq, h3.1, and_true, beq_iff_eq]

/-- 0, -1, 1: the same, less, greater -/
def cmpN (s : Bool) (r : Nat) (t : Bool) (q : Nat) : Int :=
  if sameB s r t q = true then 0 else if 9218868437227405312 < r then 1 else if 9218868437227405312 < q then -1
  else if sr s r < sr t q then -1 else if sr t q < sr s r then 1 else if s = true then -1 else 1

end Go.Proofs.Ytgfnejojjjlloaa
