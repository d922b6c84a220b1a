/- A step right ahead: both sides. -/
import Derived.Test.YtmflbibogkebmaaQa
import Derived.BigQuiet
import Derived.Deep.RegionWith
import Derived.Deep.DeepCutAuto
namespace Go.Proofs.Ytmflbibogkebmaa
open Go.RowKit
open Rd Fl

def evV (e : EvD) : Value := .agg #[.int .i64 e.th, .int .i64 e.kd, .int .i64 e.ob, .int .i64 e.lk, .int .i64 e.pc]
/-- the lock that is given (n: none is) -/
def gv (n k o l : Int) : Int := if k = 5 then o else if k = 8 then l else n
/-- the lock that is taken -/
def tk (n k o l : Int) : Int := if k = 4 then o else if k = 9 then l else n

set_option maxRecDepth 20000 in
set_option maxHeartbeats 1000000 in
theorem l6gives_any (r0 r1 r2 r3 r4 : Int) (w : World) : Calls Try.prog 67 #[.agg #[.int .i64 r0, .int .i64 r1, .int .i64 r2, .int .i64 r3, .int .i64 r4]] w fun r w' => r = .returned (.int .i64 (gv (-2) r1 r2 r3)) ∧ Below w.heap.size w w' := by
  unfold gv
  rcases (by omega : (r1 = 5) ∨ (¬ r1 = 5 ∧ r1 = 8) ∨ (¬ r1 = 5 ∧ ¬ r1 = 8)) with h | ⟨h, k⟩ | ⟨h, k⟩
  all_goals
    go_enter Try.func67, Try.ntmps67
    go_wp2
    go_ret
    exact ⟨by simp [*], (Below.refl _ w).up _⟩
set_option maxRecDepth 20000 in
set_option maxHeartbeats 1000000 in
theorem l6takes_any (r0 r1 r2 r3 r4 : Int) (w : World) : Calls Try.prog 57 #[.agg #[.int .i64 r0, .int .i64 r1, .int .i64 r2, .int .i64 r3, .int .i64 r4]] w fun r w' => r = .returned (.int .i64 (tk (-3) r1 r2 r3)) ∧ Below w.heap.size w w' := by
  unfold tk
  rcases (by omega : (r1 = 4) ∨ (¬ r1 = 4 ∧ r1 = 9) ∨ (¬ r1 = 4 ∧ ¬ r1 = 9)) with h | ⟨h, k⟩ | ⟨h, k⟩
  all_goals
    go_enter Try.func57, Try.ntmps57
    go_wp2
    go_ret
    exact ⟨by simp [*], (Below.refl _ w).up _⟩
set_option maxRecDepth 20000 in
set_option maxHeartbeats 1000000 in
theorem lgiven_any (r0 r1 r2 r3 r4 : Int) (w : World) : Calls Try.prog 73 #[.agg #[.int .i64 r0, .int .i64 r1, .int .i64 r2, .int .i64 r3, .int .i64 r4]] w fun r w' => r = .returned (.int .i64 (gv (-1) r1 r2 r3)) ∧ Below w.heap.size w w' := by
  unfold gv
  rcases (by omega : (r1 = 5) ∨ (¬ r1 = 5 ∧ r1 = 8) ∨ (¬ r1 = 5 ∧ ¬ r1 = 8)) with h | ⟨h, k⟩ | ⟨h, k⟩
  all_goals
    go_enter Try.func73, Try.ntmps73
    go_wp2
    go_ret
    exact ⟨by simp [*], (Below.refl _ w).up _⟩
set_option maxRecDepth 20000 in
set_option maxHeartbeats 1000000 in
theorem ltaken_any (r0 r1 r2 r3 r4 : Int) (w : World) : Calls Try.prog 50 #[.agg #[.int .i64 r0, .int .i64 r1, .int .i64 r2, .int .i64 r3, .int .i64 r4]] w fun r w' => r = .returned (.int .i64 (tk (-1) r1 r2 r3)) ∧ Below w.heap.size w w' := by
  unfold tk
  rcases (by omega : (r1 = 4) ∨ (¬ r1 = 4 ∧ r1 = 9) ∨ (¬ r1 = 4 ∧ ¬ r1 = 9)) with h | ⟨h, k⟩ | ⟨h, k⟩
  all_goals
    go_enter Try.func50, Try.ntmps50
    go_wp2
    go_ret
    exact ⟨by simp [*], (Below.refl _ w).up _⟩

/-- What is equal, as the walk asks it. -/
theorem gv_tk (n m k1 o1 l1 k2 o2 l2 : Int) (hn : n < 0) (hm : m < 0) (hnm : ¬ n = m ∨ (k1 = 5 ∨ k1 = 8)) (h5 : k1 = 5 → 0 ≤ o1) (h8 : k1 = 8 → 0 ≤ l1) (h4 : k2 = 4 → 0 ≤ o2) (h9 : k2 = 9 → 0 ≤ l2) : (gv n k1 o1 l1 == tk m k2 o2 l2) = decide ((k1 = 5 ∧ k2 = 4 ∧ o1 = o2) ∨ (k1 = 5 ∧ k2 = 9 ∧ o1 = l2) ∨ (k1 = 8 ∧ k2 = 4 ∧ l1 = o2) ∨ (k1 = 8 ∧ k2 = 9 ∧ l1 = l2)) := by
  rw [Bool.eq_iff_iff, beq_iff_eq, decide_eq_true_eq]
  unfold gv tk
  by_cases a : k1 = 5
  · have := h5 a
    subst a
    by_cases b : k2 = 4
    · subst b; simp
    · by_cases c : k2 = 9
      · subst c; simp
      · simp [b, c]; omega
  · by_cases a2 : k1 = 8
    · have := h8 a2
      subst a2
      by_cases b : k2 = 4
      · subst b; simp
      · by_cases c : k2 = 9
        · subst c; simp
        · simp [b, c]; omega
    · have hnm' : ¬ n = m := hnm.resolve_right (by simp [a, a2])
      by_cases b : k2 = 4
      · have := h4 b
        subst b; simp [a, a2]; omega
      · by_cases c : k2 = 9
        · have := h9 c
          subst c; simp [a, a2]; omega
        · simp [a, a2, b, c, hnm']

/-- an event's box -/
def EvBox (w : World) (N : Nat) (a0 a1 a2 a3 a4 : Int) : Prop := w.cell? ⟨N, 0, none⟩ = some (.int .i64 a0) ∧ w.cell? ⟨N, 1, none⟩ = some (.int .i64 a1) ∧ w.cell? ⟨N, 2, none⟩ = some (.int .i64 a2) ∧ w.cell? ⟨N, 3, none⟩ = some (.int .i64 a3) ∧ w.cell? ⟨N, 4, none⟩ = some (.int .i64 a4)
theorem EvBox.keep {w w' : World} {N : Nat} {a0 a1 a2 a3 a4 : Int} (h : EvBox w N a0 a1 a2 a3 a4) (hb : Below w.heap.size w w') : EvBox w' N a0 a1 a2 a3 a4 := by
  obtain ⟨h0, h1, h2, h3, h4⟩ := h
  exact ⟨keep_cell hb h0, keep_cell hb h1, keep_cell hb h2, keep_cell hb h3, keep_cell hb h4⟩
theorem evbox_new (w : World) (a0 a1 a2 a3 a4 : Int) : EvBox (w.alloc (.cells #[.int .i64 a0, .int .i64 a1, .int .i64 a2, .int .i64 a3, .int .i64 a4] 50)) w.heap.size a0 a1 a2 a3 a4 := by
  refine ⟨?_, ?_, ?_, ?_, ?_⟩ <;> (rw [World.cell?_alloc_new]; rfl)
/-- two events' boxes, made one behind the other, and nothing else -/
structure EvTwo (w wx : World) (a0 a1 a2 a3 a4 b0 b1 b2 b3 b4 : Int) : Prop where
  b : Below w.heap.size w wx
  s : w.heap.size + 1 < wx.heap.size
  x : EvBox wx w.heap.size a0 a1 a2 a3 a4
  y : EvBox wx (w.heap.size + 1) b0 b1 b2 b3 b4
theorem evtwo_new (w : World) (a0 a1 a2 a3 a4 b0 b1 b2 b3 b4 : Int) : EvTwo w ((w.alloc (.cells #[.int .i64 a0, .int .i64 a1, .int .i64 a2, .int .i64 a3, .int .i64 a4] 50)).alloc (.cells #[.int .i64 b0, .int .i64 b1, .int .i64 b2, .int .i64 b3, .int .i64 b4] 50)) a0 a1 a2 a3 a4 b0 b1 b2 b3 b4 := by
  refine ⟨below2 w _ _, by simp, (evbox_new w a0 a1 a2 a3 a4).keep ((Below.refl _ _).up _), ?_⟩
  have h := evbox_new (w.alloc (.cells #[.int .i64 a0, .int .i64 a1, .int .i64 a2, .int .i64 a3, .int .i64 a4] 50)) b0 b1 b2 b3 b4
  have e : (w.alloc (.cells #[.int .i64 a0, .int .i64 a1, .int .i64 a2, .int .i64 a3, .int .i64 a4] 50)).heap.size = w.heap.size + 1 := by simp
  rw [e] at h
  exact h
theorem EvTwo.keep {w wx wy : World} {a0 a1 a2 a3 a4 b0 b1 b2 b3 b4 : Int} (h : EvTwo w wx a0 a1 a2 a3 a4 b0 b1 b2 b3 b4) (hb : Below wx.heap.size wx wy) : EvTwo w wy a0 a1 a2 a3 a4 b0 b1 b2 b3 b4 :=
  ⟨h.b.trans (hb.mono h.b.size), Nat.lt_of_lt_of_le h.s hb.size, h.x.keep hb, h.y.keep hb⟩

end Go.Proofs.Ytmflbibogkebmaa
