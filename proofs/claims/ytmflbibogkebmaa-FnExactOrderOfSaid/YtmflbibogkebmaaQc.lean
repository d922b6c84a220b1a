/- The specification's good events. -/
import Derived.Test.YtmflbibogkebmaaQa
import Derived.Test.YtmflbibogkebmaaKind
import Derived.BigQuiet
namespace Go.Proofs.Ytmflbibogkebmaa
open Go.RowKit
open Rd Fl

set_option maxRecDepth 20000 in
set_option maxHeartbeats 4000000 in
theorem l6event_1 (r0 r1 r2 r3 r4 : Int) (w : World) (h : (2 ≤ r1 ∧ r1 ≤ 10 ∧ r2 < 0) ∨ (2 ≤ r1 ∧ r1 ≤ 10 ∧ ¬ r2 < 0 ∧ r1 = 8 ∧ r3 < 0) ∨ (2 ≤ r1 ∧ r1 ≤ 10 ∧ ¬ r2 < 0 ∧ ¬ r1 = 8 ∧ r1 = 9 ∧ r3 < 0)) :
    Calls Try.prog 66 #[.agg #[.int .i64 r0, .int .i64 r1, .int .i64 r2, .int .i64 r3, .int .i64 r4]] w fun r w' => r = .returned (.bool false) ∧ Below w.heap.size w w' := by
  have HIN : Hid (∀ n lo hi w, Calls Try.prog 35 #[.int .i64 n, .int .i64 lo, .int .i64 hi] w fun e w' => e = .returned (.bool (decide (lo ≤ n ∧ n ≤ hi))) ∧ w' = w) := fun n lo hi w => l1in_any n lo hi w
  rcases h with ⟨h1, h2, h3⟩ | ⟨h1, h2, h3, h4, h5⟩ | ⟨h1, h2, h3, h4, h5, h6⟩
  all_goals
    have d1 : decide (2 ≤ r1 ∧ r1 ≤ 10) = true := decide_eq_true ⟨h1, h2⟩
    go_enter Try.func66, Try.ntmps66
    go_wp2_with (go_at_call 35; refine (HIN.out _ _ _ _).mono ?_; rintro e w' ⟨rfl, rfl⟩)
    go_ret
    exact ⟨rfl, (Below.refl _ w).up _⟩

set_option maxRecDepth 20000 in
set_option maxHeartbeats 4000000 in
theorem l6event_2 (r0 r1 r2 r3 r4 : Int) (w : World)
    (hk : (inR 2 10 r1 = false ∧ (r1 == 8) = false ∧ (r1 == 9) = false) ∨ (inR 2 10 r1 = true ∧ decide (r2 < 0) = false ∧ (r1 == 8) = false ∧ (r1 == 9) = false) ∨ (inR 2 10 r1 = true ∧ decide (r2 < 0) = false ∧ (r1 == 8) = true ∧ decide (r3 < 0) = false) ∨ (inR 2 10 r1 = true ∧ decide (r2 < 0) = false ∧ (r1 == 8) = false ∧ (r1 == 9) = true ∧ decide (r3 < 0) = false))
    (g : Bool) (hx : (g = false ∧ inR 0 4 r0 = false) ∨ (g = false ∧ inR 0 4 r0 = true ∧ inR 1 12 r1 = false) ∨ (g = false ∧ inR 0 4 r0 = true ∧ inR 1 12 r1 = true ∧ inR (-1) 99 r2 = false) ∨ (g = false ∧ inR 0 4 r0 = true ∧ inR 1 12 r1 = true ∧ inR (-1) 99 r2 = true ∧ inR (-1) 99 r3 = false) ∨ (g = inR 0 99 r4 ∧ inR 0 4 r0 = true ∧ inR 1 12 r1 = true ∧ inR (-1) 99 r2 = true ∧ inR (-1) 99 r3 = true)) :
    Calls Try.prog 66 #[.agg #[.int .i64 r0, .int .i64 r1, .int .i64 r2, .int .i64 r3, .int .i64 r4]] w fun r w' => r = .returned (.bool g) ∧ Below w.heap.size w w' := by
  have HIN : Hid (∀ n lo hi w, Calls Try.prog 35 #[.int .i64 n, .int .i64 lo, .int .i64 hi] w fun e w' => e = .returned (.bool (inR lo hi n)) ∧ w' = w) := fun n lo hi w => l1in_any n lo hi w
  rcases hk with ⟨c1, c2, c3⟩ | ⟨c1, c2, c3, c4⟩ | ⟨c1, c2, c3, c4⟩ | ⟨c1, c2, c3, c4, c5⟩
  all_goals
    rcases hx with ⟨rfl, x1⟩ | ⟨rfl, x0, x1⟩ | ⟨rfl, x0, x1, x2⟩ | ⟨rfl, x0, x1, x2, x3⟩ | ⟨rfl, x0, x1, x2, x3⟩
  all_goals
    go_enter Try.func66, Try.ntmps66
    go_wp2_with (go_at_call 35; refine (HIN.out _ _ _ _).mono ?_; rintro e w' ⟨rfl, rfl⟩)
    go_ret
    exact ⟨rfl, (Below.refl _ w).up _⟩

theorem l6event_any (e : EvD) (w : World) : Calls Try.prog 66 #[.agg #[.int .i64 e.th, .int .i64 e.kd, .int .i64 e.ob, .int .i64 e.lk, .int .i64 e.pc]] w fun r w' => r = .returned (.bool (goodEv e)) ∧ Below w.heap.size w w' := by
  obtain ⟨r0, r1, r2, r3, r4⟩ := e
  simp only
  by_cases hE : (2 ≤ r1 ∧ r1 ≤ 10 ∧ r2 < 0) ∨ (2 ≤ r1 ∧ r1 ≤ 10 ∧ ¬ r2 < 0 ∧ r1 = 8 ∧ r3 < 0) ∨ (2 ≤ r1 ∧ r1 ≤ 10 ∧ ¬ r2 < 0 ∧ ¬ r1 = 8 ∧ r1 = 9 ∧ r3 < 0)
  · rw [goodev_no (by simp only; omega)]
    exact l6event_1 r0 r1 r2 r3 r4 w hE
  · have hyes := fun h => goodev_yes (e := ⟨r0, r1, r2, r3, r4⟩) h
    have hall := fun h => goodev_all (e := ⟨r0, r1, r2, r3, r4⟩) h
    simp only at hyes hall
    generalize goodEv ⟨r0, r1, r2, r3, r4⟩ = g at hyes hall
    refine l6event_2 r0 r1 r2 r3 r4 w ?_ g ?_
    · unfold inR
      simp only [decide_eq_true_eq, decide_eq_false_iff_not, beq_eq_false_iff_ne, beq_iff_eq]
      omega
    · by_cases h0 : 0 ≤ r0 ∧ r0 ≤ 4
      · by_cases h1 : 1 ≤ r1 ∧ r1 ≤ 12
        · by_cases h2 : -1 ≤ r2 ∧ r2 ≤ 99
          · by_cases h3 : -1 ≤ r3 ∧ r3 ≤ 99
            · refine .inr (.inr (.inr (.inr ⟨?_, decide_eq_true h0, decide_eq_true h1, decide_eq_true h2, decide_eq_true h3⟩)))
              unfold inR
              rw [Bool.eq_iff_iff, decide_eq_true_eq]
              exact ⟨fun h => by have := hall h; omega, fun h => hyes (by omega)⟩
            · refine .inr (.inr (.inr (.inl ⟨?_, decide_eq_true h0, decide_eq_true h1, decide_eq_true h2, decide_eq_false h3⟩)))
              rw [Bool.eq_false_iff]; exact fun h => by have := hall h; omega
          · refine .inr (.inr (.inl ⟨?_, decide_eq_true h0, decide_eq_true h1, decide_eq_false h2⟩))
            rw [Bool.eq_false_iff]; exact fun h => by have := hall h; omega
        · refine .inr (.inl ⟨?_, decide_eq_true h0, decide_eq_false h1⟩)
          rw [Bool.eq_false_iff]; exact fun h => by have := hall h; omega
      · refine .inl ⟨?_, decide_eq_false h0⟩
        rw [Bool.eq_false_iff]; exact fun h => by have := hall h; omega
end Go.Proofs.Ytmflbibogkebmaa
