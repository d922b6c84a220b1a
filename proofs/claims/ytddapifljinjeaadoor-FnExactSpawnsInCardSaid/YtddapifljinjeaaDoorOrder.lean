/- What IsMinus, SameNum and CompareNum answer, the specification's and the program's: contracts. -/
import Derived.Test.YtddapifljinjeaaDoorKind
namespace Go.Proofs.YtddapifljinjeaaDoor
open Go.RowKit
open Fl

def minusB (s : Bool) (r : Nat) : Bool := s && decide (r ≤ 9218868437227405312)

theorem run_one_div (s : Bool) (w : World) :
    (binOp .quo 41 (.float .f64 4607182418800017408) (.float .f64 (wd s 0))).run Tryd.prog w = .ok (.float .f64 (wd s 9218868437227405312)) w :=
  run_float_arith w .quo 41 .f64 _ _ _ (one_div_zero s)

set_option maxHeartbeats 400000 in
theorem sminus_any (s : Bool) (r : Nat) (hr : r < 9223372036854775808) (w : World) :
    Calls Tryd.prog 60 #[.float .f64 (wd s r)] w fun e w' => e = .returned (.bool (minusB s r)) ∧ w' = w := by
  by_cases h1 : 9218868437227405312 < r
  · have hm : minusB s r = false := by unfold minusB; rw [decide_eq_false (by omega)]; simp
    rw [hm]
    have h2 := (cmp_nan s r .lt hr h1 0).1
    have h3 := (cmp_nan s r .eq hr h1 0).1
    go_enter Tryd.func60, Tryd.ntmps60
    go_wp2
    go_ret
    exact ⟨rfl, rfl⟩
  · have hm : minusB s r = s := by unfold minusB; rw [decide_eq_true (by omega)]; simp
    rw [hm]
    have h2 := lt0 s r (by omega)
    have h3 := eq0 s r (by omega)
    by_cases h0 : r = 0
    · subst h0
      simp only [decide_true, Nat.lt_irrefl, decide_false, Bool.and_false] at h2 h3
      have h4 := run_one_div s
      have h5 := lt0 s 9218868437227405312 (by omega)
      simp only [Nat.reduceLT, decide_true, Bool.and_true] at h5
      clear hm
      go_enter Tryd.func60, Tryd.ntmps60
      go_wp2
      go_ret
      exact ⟨rfl, rfl⟩
    · simp only [h0, decide_false] at h3
      rw [decide_eq_true (by omega), Bool.and_true] at h2
      clear hm
      cases s
      all_goals
        go_enter Tryd.func60, Tryd.ntmps60
        go_wp2
        go_ret
        exact ⟨rfl, rfl⟩

theorem sign_word (s : Bool) (r : Nat) (hr : r < 9223372036854775808) : decide (wrap64 ((wd s r : Nat) : Int) < 0) = s := by
  cases s <;> simp [wrap64, wd] <;> omega

/-- whether two are the same -/
def sameB (s : Bool) (r : Nat) (t : Bool) (q : Nat) : Bool :=
  if 9218868437227405312 < r ∨ 9218868437227405312 < q then decide (9218868437227405312 < r ∧ 9218868437227405312 < q) else decide (s = t ∧ r = q)

theorem wd_inj (s t : Bool) (r q : Nat) (hr : r < 9223372036854775808) (hq : q < 9223372036854775808) : wd s r = wd t q ↔ s = t ∧ r = q := by
  cases s <;> cases t <;> simp [wd] <;> omega

theorem sameB_nn (s t : Bool) (r q : Nat) (h1 : 9218868437227405312 < r) (h2 : 9218868437227405312 < q) : sameB s r t q = true := by simp [sameB, h1, h2]
theorem sameB_nl (s t : Bool) (r q : Nat) (h1 : 9218868437227405312 < r) (h2 : ¬ 9218868437227405312 < q) : sameB s r t q = false := by simp [sameB, h1, h2]
theorem sameB_ln (s t : Bool) (r q : Nat) (h1 : ¬ 9218868437227405312 < r) (h2 : 9218868437227405312 < q) : sameB s r t q = false := by simp [sameB, h1, h2]
theorem sameB_word (s t : Bool) (r q : Nat) (hr : r < 9223372036854775808) (hq : q < 9223372036854775808) (h1 : ¬ 9218868437227405312 < r) (h2 : ¬ 9218868437227405312 < q) :
    sameB s r t q = (((wd s r : Nat) : Int) == ((wd t q : Nat) : Int)) := by
  have := wd_inj s t r q hr hq
  rw [Bool.eq_iff_iff]
  simp only [sameB, h1, h2, or_self, if_false, decide_eq_true_eq, ← this, beq_iff_eq]
  omega

set_option maxHeartbeats 400000 in
theorem isame_any (s t : Bool) (r q : Nat) (hr : r < 9223372036854775808) (hq : q < 9223372036854775808) (w : World) :
    Calls Tryd.prog 51 #[.float .f64 (wd s r), .float .f64 (wd t q)] w fun e w' => e = .returned (.bool (sameB s r t q)) ∧ w' = w := by
  have hb1 := run_bits (wd s r)
  have hb2 := run_bits (wd t q)
  by_cases h1 : 9218868437227405312 < r <;> by_cases h2 : 9218868437227405312 < q
  all_goals
    first
      | rw [sameB_nn s t r q h1 h2]
      | rw [sameB_nl s t r q h1 h2]
      | rw [sameB_ln s t r q h1 h2]
      | rw [sameB_word s t r q hr hq h1 h2]
    go_enter Tryd.func51, Tryd.ntmps51
    go_wp2_with (go_at_call 61; refine (mnan_any _ _ (by assumption) _).mono ?_; rintro e w' ⟨rfl, rfl⟩)
    go_ret
    exact ⟨rfl, rfl⟩

theorem sr_eq_iff (s t : Bool) (r q : Nat) : sr s r = sr t q ↔ (r = q ∧ (s = t ∨ r = 0)) := by
  cases s <;> cases t <;> simp [sr] <;> omega

theorem sameB_num (s t : Bool) (r q : Nat) (h2 : ¬ 9218868437227405312 < q) (h : sr s r = sr t q) :
    sameB s r t q = (s == t) := by
  have h3 := (sr_eq_iff s t r q).1 h
  rw [Bool.eq_iff_iff]
  simp only [sameB, h2, or_self, if_false, decide_eq_true_eq, h3.1, and_true, beq_iff_eq]

set_option maxHeartbeats 400000 in
theorem l1same_any (s t : Bool) (r q : Nat) (hr : r < 9223372036854775808) (hq : q < 9223372036854775808) (w : World) :
    Calls Tryd.prog 50 #[.float .f64 (wd s r), .float .f64 (wd t q)] w fun e w' => e = .returned (.bool (sameB s r t q)) ∧ w' = w := by
  by_cases h1 : 9218868437227405312 < r <;> by_cases h2 : 9218868437227405312 < q
  · rw [show sameB s r t q = true from by simp [sameB, h1, h2]]
    go_enter Tryd.func50, Tryd.ntmps50
    go_wp2_with (go_at_call 59; refine (nan_any _ _ (by assumption) _).mono ?_; rintro e w' ⟨rfl, rfl⟩)
    go_ret
    exact ⟨rfl, rfl⟩
  · rw [show sameB s r t q = false from by simp [sameB, h1, h2]]
    go_enter Tryd.func50, Tryd.ntmps50
    go_wp2_with (go_at_call 59; refine (nan_any _ _ (by assumption) _).mono ?_; rintro e w' ⟨rfl, rfl⟩)
    go_ret
    exact ⟨rfl, rfl⟩
  · rw [show sameB s r t q = false from by simp [sameB, h1, h2]]
    go_enter Tryd.func50, Tryd.ntmps50
    go_wp2_with (go_at_call 59; refine (nan_any _ _ (by assumption) _).mono ?_; rintro e w' ⟨rfl, rfl⟩)
    go_ret
    exact ⟨rfl, rfl⟩
  · have hc := cmp_eq s t r q (by omega) (by omega)
    by_cases he : sr s r = sr t q
    · simp only [he, decide_true] at hc
      rw [sameB_num s t r q h2 he]
      have e1 : minusB s r = s := by unfold minusB; rw [decide_eq_true (by omega)]; simp
      have e2 : minusB t q = t := by unfold minusB; rw [decide_eq_true (by omega)]; simp
      clear he
      go_enter Tryd.func50, Tryd.ntmps50
      go_wp2_with (first | (go_at_call 59; refine (nan_any _ _ (by assumption) _).mono ?_; rintro e w' ⟨rfl, rfl⟩) | (go_at_call 60; refine (sminus_any _ _ (by assumption) _).mono ?_; rintro e w' ⟨rfl, rfl⟩))
      go_ret
      exact ⟨rfl, rfl⟩
    · simp only [he, decide_false] at hc
      have hm : sameB s r t q = false := by
        have : ¬ (s = t ∧ r = q) := fun h => he (by rw [h.1, h.2])
        simp [sameB, h1, h2, this]
      rw [hm]
      clear hm he
      go_enter Tryd.func50, Tryd.ntmps50
      go_wp2_with (first | (go_at_call 59; refine (nan_any _ _ (by assumption) _).mono ?_; rintro e w' ⟨rfl, rfl⟩) | (go_at_call 60; refine (sminus_any _ _ (by assumption) _).mono ?_; rintro e w' ⟨rfl, rfl⟩))
      go_ret
      exact ⟨rfl, rfl⟩

/-- 0, -1, 1: the same, less, greater -/
def cmpN (s : Bool) (r : Nat) (t : Bool) (q : Nat) : Int :=
  if sameB s r t q = true then 0 else if 9218868437227405312 < r then 1 else if 9218868437227405312 < q then -1
  else if sr s r < sr t q then -1 else if sr t q < sr s r then 1 else if s = true then -1 else 1

end Go.Proofs.YtddapifljinjeaaDoor
