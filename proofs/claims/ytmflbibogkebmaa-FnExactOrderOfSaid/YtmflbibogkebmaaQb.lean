/- Events that are good, and steps right ahead: both sides. -/
import Derived.Test.YtmflbibogkebmaaQa
import Derived.Test.YtmflbibogkebmaaKind
import Derived.BigQuiet
namespace Go.Proofs.Ytmflbibogkebmaa
open Go.RowKit
open Rd Fl

set_option maxRecDepth 20000 in
set_option maxHeartbeats 2000000 in
theorem goodev_1 (r0 r1 r2 r3 r4 : Int) (w : World)
    (h : r0 < 0 ∨ (0 ≤ r0 ∧ 5 ≤ r0) ∨ (0 ≤ r0 ∧ r0 < 5 ∧ r1 < 1) ∨ (0 ≤ r0 ∧ r0 < 5 ∧ 1 ≤ r1 ∧ 12 < r1) ∨ (0 ≤ r0 ∧ r0 < 5 ∧ 1 ≤ r1 ∧ r1 ≤ 12 ∧ r4 < 0) ∨ (0 ≤ r0 ∧ r0 < 5 ∧ 1 ≤ r1 ∧ r1 ≤ 12 ∧ 0 ≤ r4 ∧ 100 ≤ r4)) :
    Calls Try.prog 68 #[.agg #[.int .i64 r0, .int .i64 r1, .int .i64 r2, .int .i64 r3, .int .i64 r4]] w fun e w' => e = .returned (.bool false) ∧ Below w.heap.size w w' := by
  rcases h with h0 | ⟨h0, h1⟩ | ⟨h0, h1, h2⟩ | ⟨h0, h1, h2, h3⟩ | ⟨h0, h1, h2, h3, h4⟩ | ⟨h0, h1, h2, h3, h4, h5⟩
  all_goals
    go_enter Try.func68, Try.ntmps68
    go_wp2
    go_ret
    exact ⟨rfl, (Below.refl _ w).up _⟩

theorem kd_ways (r1 : Int) (h1 : 1 ≤ r1) (h2 : r1 ≤ 12) : (r1 < 2) ∨ (2 ≤ r1 ∧ 10 < r1 ∧ ¬ r1 = 8 ∧ ¬ r1 = 9) ∨ (2 ≤ r1 ∧ r1 ≤ 10 ∧ ¬ r1 = 8 ∧ ¬ r1 = 9) ∨ r1 = 8 ∨ r1 = 9 := by omega

set_option maxRecDepth 20000 in
set_option maxHeartbeats 4000000 in
theorem goodev_2 (r0 r1 r2 r3 r4 : Int) (w : World) (h0 : 0 ≤ r0) (h1 : r0 < 5) (h4 : 0 ≤ r4) (h5 : r4 < 100) (a b : Int)
    (hk : (a = -1 ∧ b = -1 ∧ 1 ≤ r1 ∧ r1 < 2) ∨ (a = -1 ∧ b = -1 ∧ 2 ≤ r1 ∧ 10 < r1 ∧ r1 ≤ 12 ∧ ¬ r1 = 8 ∧ ¬ r1 = 9) ∨ (a = 0 ∧ b = -1 ∧ 2 ≤ r1 ∧ r1 ≤ 10 ∧ ¬ r1 = 8 ∧ ¬ r1 = 9) ∨ (a = 0 ∧ b = 0 ∧ r1 = 8) ∨ (a = 0 ∧ b = 0 ∧ r1 = 9))
    (g : Bool) (hx : (g = false ∧ r2 < a) ∨ (g = false ∧ a ≤ r2 ∧ 100 ≤ r2) ∨ (g = false ∧ a ≤ r2 ∧ r2 < 100 ∧ r3 < b) ∨ (g = decide (r3 < 100) ∧ a ≤ r2 ∧ r2 < 100 ∧ b ≤ r3)) :
    Calls Try.prog 68 #[.agg #[.int .i64 r0, .int .i64 r1, .int .i64 r2, .int .i64 r3, .int .i64 r4]] w fun e w' => e = .returned (.bool g) ∧ Below w.heap.size w w' := by
  have d0 : decide (r0 < 0) = false := decide_eq_false (by omega)
  have d1 : decide (5 ≤ r0) = false := decide_eq_false (by omega)
  have d2 : decide (r1 < 1) = false := decide_eq_false (by omega)
  have d3 : decide (12 < r1) = false := decide_eq_false (by omega)
  have d4 : decide (r4 < 0) = false := decide_eq_false (by omega)
  have d5 : decide (100 ≤ r4) = false := decide_eq_false (by omega)
  clear h0 h1 h4 h5
  have hk' : (a = -1 ∧ b = -1 ∧ decide (2 ≤ r1) = false ∧ (r1 == 8) = false ∧ (r1 == 9) = false) ∨ (a = -1 ∧ b = -1 ∧ decide (2 ≤ r1) = true ∧ decide (r1 ≤ 10) = false ∧ (r1 == 8) = false ∧ (r1 == 9) = false) ∨ (a = 0 ∧ b = -1 ∧ decide (2 ≤ r1) = true ∧ decide (r1 ≤ 10) = true ∧ (r1 == 8) = false ∧ (r1 == 9) = false) ∨ (a = 0 ∧ b = 0 ∧ decide (2 ≤ r1) = true ∧ decide (r1 ≤ 10) = true ∧ (r1 == 8) = true) ∨ (a = 0 ∧ b = 0 ∧ decide (2 ≤ r1) = true ∧ decide (r1 ≤ 10) = true ∧ (r1 == 8) = false ∧ (r1 == 9) = true) := by
    simp only [decide_eq_true_eq, decide_eq_false_iff_not, beq_eq_false_iff_ne, beq_iff_eq]
    omega
  have hx' : (g = false ∧ decide (a ≤ r2) = false) ∨ (g = false ∧ decide (a ≤ r2) = true ∧ decide (r2 < 100) = false) ∨ (g = false ∧ decide (a ≤ r2) = true ∧ decide (r2 < 100) = true ∧ decide (b ≤ r3) = false) ∨ (g = decide (r3 < 100) ∧ decide (a ≤ r2) = true ∧ decide (r2 < 100) = true ∧ decide (b ≤ r3) = true) := by
    simp only [decide_eq_true_eq, decide_eq_false_iff_not]
    rcases hx with ⟨h, x⟩ | ⟨h, x⟩ | ⟨h, x⟩ | ⟨h, x⟩
    · exact .inl ⟨h, by omega⟩
    · exact .inr (.inl ⟨h, by omega⟩)
    · exact .inr (.inr (.inl ⟨h, by omega⟩))
    · exact .inr (.inr (.inr ⟨h, by omega⟩))
  clear hk hx
  rcases hk' with ⟨rfl, rfl, k1, k2, k3⟩ | ⟨rfl, rfl, k1, k2, k3, k4⟩ | ⟨rfl, rfl, k1, k2, k4, k5⟩ | ⟨rfl, rfl, k1, k2, k3⟩ | ⟨rfl, rfl, k1, k2, k3, k4⟩
  all_goals
    rcases hx' with ⟨rfl, x1⟩ | ⟨rfl, x1, x2⟩ | ⟨rfl, x1, x2, x3⟩ | ⟨rfl, x1, x2, x3⟩
  all_goals
    go_enter Try.func68, Try.ntmps68
    go_wp2
    go_ret
    exact ⟨rfl, (Below.refl _ w).up _⟩

theorem hx_of (r2 r3 a b : Int) (g : Bool) (h : g = true ↔ a ≤ r2 ∧ r2 < 100 ∧ b ≤ r3 ∧ r3 < 100) : (g = false ∧ r2 < a) ∨ (g = false ∧ a ≤ r2 ∧ 100 ≤ r2) ∨ (g = false ∧ a ≤ r2 ∧ r2 < 100 ∧ r3 < b) ∨ (g = decide (r3 < 100) ∧ a ≤ r2 ∧ r2 < 100 ∧ b ≤ r3) := by
  cases g
  · have h' : ¬ (a ≤ r2 ∧ r2 < 100 ∧ b ≤ r3 ∧ r3 < 100) := fun k => by have := h.2 k; cases this
    by_cases h1 : r2 < a
    · exact .inl ⟨rfl, h1⟩
    · by_cases h2 : 100 ≤ r2
      · exact .inr (.inl ⟨rfl, by omega, h2⟩)
      · by_cases h3 : r3 < b
        · exact .inr (.inr (.inl ⟨rfl, by omega, by omega, h3⟩))
        · exact .inr (.inr (.inr ⟨(decide_eq_false (by omega)).symm, by omega, by omega, by omega⟩))
  · obtain ⟨h1, h2, h3, h4⟩ := h.1 rfl
    exact .inr (.inr (.inr ⟨(decide_eq_true h4).symm, h1, h2, h3⟩))

theorem igoodev_any (e : EvD) (w : World) : Calls Try.prog 68 #[.agg #[.int .i64 e.th, .int .i64 e.kd, .int .i64 e.ob, .int .i64 e.lk, .int .i64 e.pc]] w fun r w' => r = .returned (.bool (goodEv e)) ∧ Below w.heap.size w w' := by
  obtain ⟨r0, r1, r2, r3, r4⟩ := e
  simp only
  by_cases hA : r0 < 0 ∨ (0 ≤ r0 ∧ 5 ≤ r0) ∨ (0 ≤ r0 ∧ r0 < 5 ∧ r1 < 1) ∨ (0 ≤ r0 ∧ r0 < 5 ∧ 1 ≤ r1 ∧ 12 < r1) ∨ (0 ≤ r0 ∧ r0 < 5 ∧ 1 ≤ r1 ∧ r1 ≤ 12 ∧ r4 < 0) ∨ (0 ≤ r0 ∧ r0 < 5 ∧ 1 ≤ r1 ∧ r1 ≤ 12 ∧ 0 ≤ r4 ∧ 100 ≤ r4)
  · rw [goodev_no (by simp only; omega)]
    exact goodev_1 r0 r1 r2 r3 r4 w hA
  · have b1 : 1 ≤ r1 := by omega
    have b2 : r1 ≤ 12 := by omega
    have b3 : 0 ≤ r0 := by omega
    have b4 : r0 < 5 := by omega
    have b5 : 0 ≤ r4 := by omega
    have b6 : r4 < 100 := by omega
    clear hA
    have hyes := fun h => goodev_yes (e := ⟨r0, r1, r2, r3, r4⟩) h
    have hall := fun h => goodev_all (e := ⟨r0, r1, r2, r3, r4⟩) h
    simp only at hyes hall
    generalize goodEv ⟨r0, r1, r2, r3, r4⟩ = g at hyes hall
    rcases kd_ways r1 b1 b2 with h | h | h | h | h
    · exact goodev_2 r0 r1 r2 r3 r4 w b3 b4 b5 b6 (-1) (-1) (.inl ⟨rfl, rfl, b1, h⟩) g (hx_of r2 r3 _ _ g ⟨fun h => by have := hall h; omega, fun h => hyes (by omega)⟩)
    · exact goodev_2 r0 r1 r2 r3 r4 w b3 b4 b5 b6 (-1) (-1) (.inr (.inl ⟨rfl, rfl, h.1, h.2.1, b2, h.2.2.1, h.2.2.2⟩)) g (hx_of r2 r3 _ _ g ⟨fun h => by have := hall h; omega, fun h => hyes (by omega)⟩)
    · exact goodev_2 r0 r1 r2 r3 r4 w b3 b4 b5 b6 0 (-1) (.inr (.inr (.inl ⟨rfl, rfl, h.1, h.2.1, h.2.2.1, h.2.2.2⟩))) g (hx_of r2 r3 _ _ g ⟨fun h => by have := hall h; omega, fun h => hyes (by omega)⟩)
    · exact goodev_2 r0 r1 r2 r3 r4 w b3 b4 b5 b6 0 0 (.inr (.inr (.inr (.inl ⟨rfl, rfl, h⟩)))) g (hx_of r2 r3 _ _ g ⟨fun h => by have := hall h; omega, fun h => hyes (by omega)⟩)
    · exact goodev_2 r0 r1 r2 r3 r4 w b3 b4 b5 b6 0 0 (.inr (.inr (.inr (.inr ⟨rfl, rfl, h⟩)))) g (hx_of r2 r3 _ _ g ⟨fun h => by have := hall h; omega, fun h => hyes (by omega)⟩)
end Go.Proofs.Ytmflbibogkebmaa
