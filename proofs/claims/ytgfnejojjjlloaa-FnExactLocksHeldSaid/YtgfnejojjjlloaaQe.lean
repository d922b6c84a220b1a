/- A step right ahead, and good traces: both sides answer one thing. -/
import Derived.Test.YtgfnejojjjlloaaQb
import Derived.Test.YtgfnejojjjlloaaQc
import Derived.Test.YtgfnejojjjlloaaQd
namespace Go.Proofs.Ytgfnejojjjlloaa
open Go.RowKit
open Rd Fl

theorem b_eq {g : Bool} {P : Prop} {x y : Int} (h : g = true ↔ P) (k : P ↔ x = y) : g = (x == y) := by
  rw [Bool.eq_iff_iff, beq_iff_eq, h, k]
theorem b_no {g : Bool} {P : Prop} (h : g = true ↔ P) (k : ¬ P) : g = false := by
  rw [Bool.eq_false_iff]; exact fun e => k (h.1 e)

theorem right_both (a b : EvD) (ha : goodEv a = true) (hb : goodEv b = true) (w : World) :
    (Calls Try.prog 74 #[.agg #[.int .i64 a.th, .int .i64 a.kd, .int .i64 a.ob, .int .i64 a.lk, .int .i64 a.pc], .agg #[.int .i64 b.th, .int .i64 b.kd, .int .i64 b.ob, .int .i64 b.lk, .int .i64 b.pc]] w fun r w' => r = .returned (.bool (rightB a b)) ∧ Below w.heap.size w w') ∧
    (Calls Try.prog 62 #[.agg #[.int .i64 a.th, .int .i64 a.kd, .int .i64 a.ob, .int .i64 a.lk, .int .i64 a.pc], .agg #[.int .i64 b.th, .int .i64 b.kd, .int .i64 b.ob, .int .i64 b.lk, .int .i64 b.pc]] w fun r w' => r = .returned (.bool (rightB a b)) ∧ Below w.heap.size w w') := by
  obtain ⟨a0, a1, a2, a3, a4⟩ := a
  obtain ⟨b0, b1, b2, b3, b4⟩ := b
  have hA := goodev_all ha
  have hB := goodev_all hb
  simp only at hA hB
  obtain ⟨-, -, -, -, -, -, -, -, -, -, ho, hl⟩ := hA
  obtain ⟨-, -, -, -, -, -, -, -, -, -, ho', hl'⟩ := hB
  clear ha hb
  have j5 : a1 = 5 → 0 ≤ a2 := fun h => by omega
  have j8 : a1 = 8 → 0 ≤ a3 := fun h => by omega
  have j4 : b1 = 4 → 0 ≤ b2 := fun h => by omega
  have j9 : b1 = 9 → 0 ≤ b3 := fun h => by omega
  clear ho hl ho' hl'
  have hg : rightB ⟨a0, a1, a2, a3, a4⟩ ⟨b0, b1, b2, b3, b4⟩ = true ↔ (a0 = b0 ∨ (a1 = 5 ∧ b1 = 4 ∧ a2 = b2) ∨ (a1 = 5 ∧ b1 = 9 ∧ a2 = b3) ∨ (a1 = 8 ∧ b1 = 4 ∧ a3 = b2) ∨ (a1 = 8 ∧ b1 = 9 ∧ a3 = b3) ∨ (a1 = 6 ∧ a2 = b0) ∨ (a1 = 11 ∧ b1 = 7 ∧ b2 = a0) ∨ (a1 = 10 ∧ b1 = 9 ∧ b0 = a3)) := by
    unfold rightB; rw [decide_eq_true_eq]
  simp only
  generalize rightB ⟨a0, a1, a2, a3, a4⟩ ⟨b0, b1, b2, b3, b4⟩ = g at hg
  have HG := hide' hg
  clear hg
  by_cases e0 : a0 = b0
  · have : g = true := HG.out.2 (.inl e0)
    subst this
    exact right_same a0 a1 a2 a3 a4 b0 b1 b2 b3 b4 w (by rw [beq_iff_eq]; exact e0)
  · have n0 : (a0 == b0) = false := by rw [beq_eq_false_iff_ne]; exact e0
    have hz2 := gv_tk (-2) (-3) a1 a2 a3 b1 b2 b3 (by omega) (by omega) (.inl (by omega)) j5 j8 j4 j9
    constructor
    · by_cases L : (a1 = 5 ∧ b1 = 4 ∧ a2 = b2) ∨ (a1 = 5 ∧ b1 = 9 ∧ a2 = b3) ∨ (a1 = 8 ∧ b1 = 4 ∧ a3 = b2) ∨ (a1 = 8 ∧ b1 = 9 ∧ a3 = b3)
      · rw [decide_eq_true L] at hz2
        refine l6right_w a0 a1 a2 a3 a4 b0 b1 b2 b3 b4 g true w n0 hz2 (.inl ⟨rfl, HG.out.2 ?_⟩)
        rcases L with L | L | L | L
        · exact .inr (.inl L)
        · exact .inr (.inr (.inl L))
        · exact .inr (.inr (.inr (.inl L)))
        · exact .inr (.inr (.inr (.inr (.inl L))))
      · rw [decide_eq_false L] at hz2
        have hg' : g = true ↔ ((a1 = 6 ∧ a2 = b0) ∨ (a1 = 11 ∧ b1 = 7 ∧ b2 = a0) ∨ (a1 = 10 ∧ b1 = 9 ∧ b0 = a3)) := by
          rw [HG.out]
          constructor
          · rintro (h | h | h | h | h | h)
            · exact absurd h e0
            · exact absurd (.inl h) L
            · exact absurd (.inr (.inl h)) L
            · exact absurd (.inr (.inr (.inl h))) L
            · exact absurd (.inr (.inr (.inr h))) L
            · exact h
          · exact fun h => .inr (.inr (.inr (.inr (.inr h))))
        refine l6right_w a0 a1 a2 a3 a4 b0 b1 b2 b3 b4 g false w n0 hz2 (.inr ?_)
        have HQ := hide' hg'
        clear hg' L hz2 j5 j8 j4 j9
        by_cases e6 : a1 = 6
        · exact .inl ⟨rfl, by simp [e6], b_eq HQ.out (by omega)⟩
        · have n6 : (a1 == 6) = false := by simp [e6]
          refine .inr ?_
          by_cases e11 : a1 = 11
          · by_cases e7 : b1 = 7
            · exact .inr (.inl ⟨rfl, n6, by simp [e11], by simp [e7], b_eq HQ.out (by omega)⟩)
            · exact .inl ⟨rfl, n6, by simp [e11], by simp [e7], b_no HQ.out (by omega)⟩
          · have n11 : (a1 == 11) = false := by simp [e11]
            refine .inr (.inr ?_)
            by_cases e10 : a1 = 10
            · by_cases e9 : b1 = 9
              · exact .inr (.inl ⟨rfl, n6, n11, by simp [e10], by simp [e9], b_eq HQ.out (by omega)⟩)
              · exact .inl ⟨rfl, n6, n11, by simp [e10], by simp [e9], b_no HQ.out (by omega)⟩
            · exact .inr (.inr ⟨rfl, n6, n11, by simp [e10], b_no HQ.out (by omega)⟩)
    · by_cases e58 : a1 = 5 ∨ a1 = 8
      · have hz1 := gv_tk (-1) (-1) a1 a2 a3 b1 b2 b3 (by omega) (by omega) (.inr e58) j5 j8 j4 j9
        have : g = decide ((a1 = 5 ∧ b1 = 4 ∧ a2 = b2) ∨ (a1 = 5 ∧ b1 = 9 ∧ a2 = b3) ∨ (a1 = 8 ∧ b1 = 4 ∧ a3 = b2) ∨ (a1 = 8 ∧ b1 = 9 ∧ a3 = b3)) := by
          rw [Bool.eq_iff_iff, decide_eq_true_eq, HG.out]
          constructor
          · rintro (h | h | h | h | h | h)
            · exact absurd h e0
            · exact .inl h
            · exact .inr (.inl h)
            · exact .inr (.inr (.inl h))
            · exact .inr (.inr (.inr h))
            · clear hz2 hz1; omega
          · rintro (h | h | h | h)
            · exact .inr (.inl h)
            · exact .inr (.inr (.inl h))
            · exact .inr (.inr (.inr (.inl h)))
            · exact .inr (.inr (.inr (.inr (.inl h))))
        rw [← this] at hz1
        refine rightah_lock a0 a1 a2 a3 a4 b0 b1 b2 b3 b4 g w n0 hz1 ?_
        rcases e58 with e | e
        · exact .inl (by simp [e])
        · exact .inr ⟨by simp [e], by simp [e]⟩
      · have hg' : g = true ↔ ((a1 = 6 ∧ a2 = b0) ∨ (a1 = 11 ∧ b1 = 7 ∧ b2 = a0) ∨ (a1 = 10 ∧ b1 = 9 ∧ b0 = a3)) := by
          rw [HG.out]
          constructor
          · rintro (h | h | h | h | h | h)
            · exact absurd h e0
            · exact absurd (.inl h.1) e58
            · exact absurd (.inl h.1) e58
            · exact absurd (.inr h.1) e58
            · exact absurd (.inr h.1) e58
            · exact h
          · exact fun h => .inr (.inr (.inr (.inr (.inr h))))
        refine rightah_rest a0 a1 a2 a3 a4 b0 b1 b2 b3 b4 g w n0 (by rw [beq_eq_false_iff_ne]; omega) (by rw [beq_eq_false_iff_ne]; omega) ?_
        have HQ := hide' hg'
        clear hg' hz2 j5 j8 j4 j9
        by_cases e6 : a1 = 6
        · exact .inl ⟨by simp [e6], b_eq HQ.out (by omega)⟩
        · have n6 : (a1 == 6) = false := by simp [e6]
          refine .inr ?_
          by_cases e11 : a1 = 11
          · by_cases e7 : b1 = 7
            · exact .inr (.inl ⟨n6, by simp [e11], by simp [e7], b_eq HQ.out (by omega)⟩)
            · exact .inl ⟨n6, by simp [e11], by simp [e7], b_no HQ.out (by omega)⟩
          · have n11 : (a1 == 11) = false := by simp [e11]
            refine .inr (.inr ?_)
            by_cases e10 : a1 = 10
            · by_cases e9 : b1 = 9
              · exact .inr (.inl ⟨n6, n11, by simp [e10], by simp [e9], b_eq HQ.out (by omega)⟩)
              · exact .inl ⟨n6, n11, by simp [e10], by simp [e9], b_no HQ.out (by omega)⟩
            · exact .inr (.inr ⟨n6, n11, by simp [e10], b_no HQ.out (by omega)⟩)
end Go.Proofs.Ytgfnejojjjlloaa
