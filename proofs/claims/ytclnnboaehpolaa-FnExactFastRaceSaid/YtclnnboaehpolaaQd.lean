/- A step right ahead: both sides. -/
import Derived.Test.YtclnnboaehpolaaQa
import Derived.BigQuiet
import Derived.Deep.RegionWith
import Derived.Deep.DeepCutAuto
namespace Go.Proofs.Ytclnnboaehpolaa
open Go.RowKit
open Rd Fl

def evV (e : EvD) : Value := .agg #[.int .i64 e.th, .int .i64 e.kd, .int .i64 e.ob, .int .i64 e.lk, .int .i64 e.pc]
/-- the lock that is given (n: none is) -/
def gv (n k o l : Int) : Int := if k = 5 then o else if k = 8 then l else n
/-- the lock that is taken -/
def tk (n k o l : Int) : Int := if k = 4 then o else if k = 9 then l else n

set_option maxRecDepth 20000 in
set_option maxHeartbeats 1000000 in
theorem l6gives_any (r0 r1 r2 r3 r4 : Int) (w : World) : Calls Try.prog 30 #[.agg #[.int .i64 r0, .int .i64 r1, .int .i64 r2, .int .i64 r3, .int .i64 r4]] w fun r w' => r = .returned (.int .i64 (gv (-2) r1 r2 r3)) ∧ Below w.heap.size w w' := by
  unfold gv
  rcases (by omega : (r1 = 5) ∨ (¬ r1 = 5 ∧ r1 = 8) ∨ (¬ r1 = 5 ∧ ¬ r1 = 8)) with h | ⟨h, k⟩ | ⟨h, k⟩
  all_goals
    go_enter Try.func30, Try.ntmps30
    go_wp2
    go_ret
    exact ⟨by simp [*], (Below.refl _ w).up _⟩
set_option maxRecDepth 20000 in
set_option maxHeartbeats 1000000 in
theorem l6takes_any (r0 r1 r2 r3 r4 : Int) (w : World) : Calls Try.prog 31 #[.agg #[.int .i64 r0, .int .i64 r1, .int .i64 r2, .int .i64 r3, .int .i64 r4]] w fun r w' => r = .returned (.int .i64 (tk (-3) r1 r2 r3)) ∧ Below w.heap.size w w' := by
  unfold tk
  rcases (by omega : (r1 = 4) ∨ (¬ r1 = 4 ∧ r1 = 9) ∨ (¬ r1 = 4 ∧ ¬ r1 = 9)) with h | ⟨h, k⟩ | ⟨h, k⟩
  all_goals
    go_enter Try.func31, Try.ntmps31
    go_wp2
    go_ret
    exact ⟨by simp [*], (Below.refl _ w).up _⟩
set_option maxRecDepth 20000 in
set_option maxHeartbeats 1000000 in
theorem lgiven_any (r0 r1 r2 r3 r4 : Int) (w : World) : Calls Try.prog 28 #[.agg #[.int .i64 r0, .int .i64 r1, .int .i64 r2, .int .i64 r3, .int .i64 r4]] w fun r w' => r = .returned (.int .i64 (gv (-1) r1 r2 r3)) ∧ Below w.heap.size w w' := by
  unfold gv
  rcases (by omega : (r1 = 5) ∨ (¬ r1 = 5 ∧ r1 = 8) ∨ (¬ r1 = 5 ∧ ¬ r1 = 8)) with h | ⟨h, k⟩ | ⟨h, k⟩
  all_goals
    go_enter Try.func28, Try.ntmps28
    go_wp2
    go_ret
    exact ⟨by simp [*], (Below.refl _ w).up _⟩
set_option maxRecDepth 20000 in
set_option maxHeartbeats 1000000 in
theorem ltaken_any (r0 r1 r2 r3 r4 : Int) (w : World) : Calls Try.prog 29 #[.agg #[.int .i64 r0, .int .i64 r1, .int .i64 r2, .int .i64 r3, .int .i64 r4]] w fun r w' => r = .returned (.int .i64 (tk (-1) r1 r2 r3)) ∧ Below w.heap.size w w' := by
  unfold tk
  rcases (by omega : (r1 = 4) ∨ (¬ r1 = 4 ∧ r1 = 9) ∨ (¬ r1 = 4 ∧ ¬ r1 = 9)) with h | ⟨h, k⟩ | ⟨h, k⟩
  all_goals
    go_enter Try.func29, Try.ntmps29
    go_wp2
    go_ret
    exact ⟨by simp [*], (Below.refl _ w).up _⟩

/-- What is equal, as the walk asks it. -/
theorem gv_tk (n m k1 o1 l1 k2 o2 l2 : Int) (hn : n < 0) (hm : m < 0) (hnm : ¬ n = m ∨ (k1 = 5 ∨ k1 = 8)) (h5 : k1 = 5 → 0 ≤ o1) (h8 : k1 = 8 → 0 ≤ l1) (h4 : k2 = 4 → 0 ≤ o2) (h9 : k2 = 9 → 0 ≤ l2) : (gv n k1 o1 l1 == tk m k2 o2 l2) = decide ((k1 = 5 ∧ k2 = 4 ∧ o1 = o2) ∨ (k1 = 5 ∧ k2 = 9 ∧ o1 = l2) ∨ (k1 = 8 ∧ k2 = 4 ∧ l1 = o2) ∨ (k1 = 8 ∧ k2 = 9 ∧ l1 = l2)) := by
  rw [Bool.eq_iff_iff, beq_iff_eq, decide_eq_true_eq]
  unfold gv tk
  by_cases a : k1 = 5
  · have := h5 a
    subst a
    by_cases b : k2 = 4
    · subst b; simp
    · by_cases c : k2 = 9
      · subst c; simp
      · simp [b, c]; omega
  · by_cases a2 : k1 = 8
    · have := h8 a2
      subst a2
      by_cases b : k2 = 4
      · subst b; simp
      · by_cases c : k2 = 9
        · subst c; simp
        · simp [b, c]; omega
    · have hnm' : ¬ n = m := hnm.resolve_right (by simp [a, a2])
      by_cases b : k2 = 4
      · have := h4 b
        subst b; simp [a, a2]; omega
      · by_cases c : k2 = 9
        · have := h9 c
          subst c; simp [a, a2]; omega
        · simp [a, a2, b, c, hnm']

/-- an event's box -/
def EvBox (w : World) (N : Nat) (a0 a1 a2 a3 a4 : Int) : Prop := w.cell? ⟨N, 0, none⟩ = some (.int .i64 a0) ∧ w.cell? ⟨N, 1, none⟩ = some (.int .i64 a1) ∧ w.cell? ⟨N, 2, none⟩ = some (.int .i64 a2) ∧ w.cell? ⟨N, 3, none⟩ = some (.int .i64 a3) ∧ w.cell? ⟨N, 4, none⟩ = some (.int .i64 a4)
theorem EvBox.keep {w w' : World} {N : Nat} {a0 a1 a2 a3 a4 : Int} (h : EvBox w N a0 a1 a2 a3 a4) (hb : Below w.heap.size w w') : EvBox w' N a0 a1 a2 a3 a4 := by
  obtain ⟨h0, h1, h2, h3, h4⟩ := h
  exact ⟨keep_cell hb h0, keep_cell hb h1, keep_cell hb h2, keep_cell hb h3, keep_cell hb h4⟩
theorem evbox_new (w : World) (a0 a1 a2 a3 a4 : Int) : EvBox (w.alloc (.cells #[.int .i64 a0, .int .i64 a1, .int .i64 a2, .int .i64 a3, .int .i64 a4] 35)) w.heap.size a0 a1 a2 a3 a4 := by
  refine ⟨?_, ?_, ?_, ?_, ?_⟩ <;> (rw [World.cell?_alloc_new]; rfl)
/-- two events' boxes, made one behind the other, and nothing else -/
structure EvTwo (w wx : World) (a0 a1 a2 a3 a4 b0 b1 b2 b3 b4 : Int) : Prop where
  b : Below w.heap.size w wx
  s : w.heap.size + 1 < wx.heap.size
  x : EvBox wx w.heap.size a0 a1 a2 a3 a4
  y : EvBox wx (w.heap.size + 1) b0 b1 b2 b3 b4
theorem evtwo_new (w : World) (a0 a1 a2 a3 a4 b0 b1 b2 b3 b4 : Int) : EvTwo w ((w.alloc (.cells #[.int .i64 a0, .int .i64 a1, .int .i64 a2, .int .i64 a3, .int .i64 a4] 35)).alloc (.cells #[.int .i64 b0, .int .i64 b1, .int .i64 b2, .int .i64 b3, .int .i64 b4] 35)) a0 a1 a2 a3 a4 b0 b1 b2 b3 b4 := by
  refine ⟨below2 w _ _, by simp, (evbox_new w a0 a1 a2 a3 a4).keep ((Below.refl _ _).up _), ?_⟩
  have h := evbox_new (w.alloc (.cells #[.int .i64 a0, .int .i64 a1, .int .i64 a2, .int .i64 a3, .int .i64 a4] 35)) b0 b1 b2 b3 b4
  have e : (w.alloc (.cells #[.int .i64 a0, .int .i64 a1, .int .i64 a2, .int .i64 a3, .int .i64 a4] 35)).heap.size = w.heap.size + 1 := by simp
  rw [e] at h
  exact h
theorem EvTwo.keep {w wx wy : World} {a0 a1 a2 a3 a4 b0 b1 b2 b3 b4 : Int} (h : EvTwo w wx a0 a1 a2 a3 a4 b0 b1 b2 b3 b4) (hb : Below wx.heap.size wx wy) : EvTwo w wy a0 a1 a2 a3 a4 b0 b1 b2 b3 b4 :=
  ⟨h.b.trans (hb.mono h.b.size), Nat.lt_of_lt_of_le h.s hb.size, h.x.keep hb, h.y.keep hb⟩

set_option maxRecDepth 20000 in
set_option maxHeartbeats 4000000 in
theorem right_same (a0 a1 a2 a3 a4 b0 b1 b2 b3 b4 : Int) (w : World) (h1 : (a0 == b0) = true) :
    (Calls Try.prog 26 #[.agg #[.int .i64 a0, .int .i64 a1, .int .i64 a2, .int .i64 a3, .int .i64 a4], .agg #[.int .i64 b0, .int .i64 b1, .int .i64 b2, .int .i64 b3, .int .i64 b4]] w fun r w' => r = .returned (.bool true) ∧ Below w.heap.size w w') ∧
    (Calls Try.prog 23 #[.agg #[.int .i64 a0, .int .i64 a1, .int .i64 a2, .int .i64 a3, .int .i64 a4], .agg #[.int .i64 b0, .int .i64 b1, .int .i64 b2, .int .i64 b3, .int .i64 b4]] w fun r w' => r = .returned (.bool true) ∧ Below w.heap.size w w') := by
  constructor
  · go_enter Try.func26, Try.ntmps26
    go_wp2
    go_ret
    exact ⟨rfl, below2 w _ _⟩
  · go_enter Try.func23, Try.ntmps23
    go_wp2
    go_ret
    exact ⟨rfl, below2 w _ _⟩

set_option maxRecDepth 20000 in
set_option maxHeartbeats 4000000 in
theorem l6right_w (a0 a1 a2 a3 a4 b0 b1 b2 b3 b4 : Int) (g z : Bool) (w : World) (h1 : (a0 == b0) = false) (hz : (gv (-2) a1 a2 a3 == tk (-3) b1 b2 b3) = z)
    (h : (z = true ∧ g = true) ∨ (z = false ∧ (a1 == 6) = true ∧ g = (a2 == b0)) ∨ (z = false ∧ (a1 == 6) = false ∧ (a1 == 11) = true ∧ (b1 == 7) = false ∧ g = false) ∨ (z = false ∧ (a1 == 6) = false ∧ (a1 == 11) = true ∧ (b1 == 7) = true ∧ g = (b2 == a0)) ∨ (z = false ∧ (a1 == 6) = false ∧ (a1 == 11) = false ∧ (a1 == 10) = true ∧ (b1 == 9) = false ∧ g = false) ∨ (z = false ∧ (a1 == 6) = false ∧ (a1 == 11) = false ∧ (a1 == 10) = true ∧ (b1 == 9) = true ∧ g = (a3 == b0)) ∨ (z = false ∧ (a1 == 6) = false ∧ (a1 == 11) = false ∧ (a1 == 10) = false ∧ g = false)) :
    Calls Try.prog 26 #[.agg #[.int .i64 a0, .int .i64 a1, .int .i64 a2, .int .i64 a3, .int .i64 a4], .agg #[.int .i64 b0, .int .i64 b1, .int .i64 b2, .int .i64 b3, .int .i64 b4]] w fun r w' => r = .returned (.bool g) ∧ Below w.heap.size w w' := by
  have HG : Hid (∀ w, Calls Try.prog 30 #[.agg #[.int .i64 a0, .int .i64 a1, .int .i64 a2, .int .i64 a3, .int .i64 a4]] w fun r w' => r = .returned (.int .i64 (gv (-2) a1 a2 a3)) ∧ Below w.heap.size w w') := fun w => l6gives_any _ _ _ _ _ w
  have HT : Hid (∀ w, Calls Try.prog 31 #[.agg #[.int .i64 b0, .int .i64 b1, .int .i64 b2, .int .i64 b3, .int .i64 b4]] w fun r w' => r = .returned (.int .i64 (tk (-3) b1 b2 b3)) ∧ Below w.heap.size w w') := fun w => l6takes_any _ _ _ _ _ w
  generalize gv (-2) a1 a2 a3 = x at hz HG
  generalize tk (-3) b1 b2 b3 = y at hz HT
  have HH := hide' h
  clear h
  go_enter Try.func26, Try.ntmps26
  go_wp2_with fail
  have H2 := hide' (evtwo_new w a0 a1 a2 a3 a4 b0 b1 b2 b3 b4)
  generalize hwx : (w.alloc (.cells #[.int .i64 a0, .int .i64 a1, .int .i64 a2, .int .i64 a3, .int .i64 a4] 35)).alloc (.cells #[.int .i64 b0, .int .i64 b1, .int .i64 b2, .int .i64 b3, .int .i64 b4] 35) = wx at H2
  clear hwx
  obtain ⟨-, -, ⟨p0, p1, p2, p3, p4⟩, ⟨q0, q1, q2, q3, q4⟩⟩ := H2.out
  have D2 := hide' (H2.out.keep (Below.refl _ wx).drew)
  go_cut [5] (fun t wy => t = .bool z ∧ Hid (EvTwo w wy a0 a1 a2 a3 a4 b0 b1 b2 b3 b4))
  case first =>
    go_region_with (first | (go_at_call 30; refine (HG.out _).mono ?_; rintro e w3 ⟨rfl, hb3⟩; have H3 := hide' (D2.out.keep hb3); obtain ⟨-, -, -, ⟨s0, s1, s2, s3, s4⟩⟩ := H3.out) | (go_at_call 31; refine (HT.out _).mono ?_; rintro e w4 ⟨rfl, hb4⟩; have H4 := hide' (H3.out.keep hb4)))
    all_goals
      go_wp2_with fail
      go_meet
      exact ⟨rfl, H4.out⟩
  case rest =>
    obtain ⟨rfl, H5⟩ := hcut
    clear p0 p1 p2 p3 p4 q0 q1 q2 q3 q4 H2 D2 HG HT hz x y
    obtain ⟨-, -, ⟨p0, p1, p2, p3, p4⟩, ⟨q0, q1, q2, q3, q4⟩⟩ := H5.out
    rcases HH.out with ⟨rfl, rfl⟩ | ⟨rfl, h3, rfl⟩ | ⟨rfl, h3, h4, h5, rfl⟩ | ⟨rfl, h3, h4, h5, rfl⟩ | ⟨rfl, h3, h4, h5, h6, rfl⟩ | ⟨rfl, h3, h4, h5, h6, rfl⟩ | ⟨rfl, h3, h4, h5, rfl⟩
    all_goals
      go_wp2
      go_ret
      exact ⟨rfl, H5.out.b⟩

set_option maxRecDepth 20000 in
set_option maxHeartbeats 4000000 in
theorem rightah_lock (a0 a1 a2 a3 a4 b0 b1 b2 b3 b4 : Int) (z : Bool) (w : World) (h1 : (a0 == b0) = false) (hz : (gv (-1) a1 a2 a3 == tk (-1) b1 b2 b3) = z) (h : (a1 == 5) = true ∨ ((a1 == 5) = false ∧ (a1 == 8) = true)) :
    Calls Try.prog 23 #[.agg #[.int .i64 a0, .int .i64 a1, .int .i64 a2, .int .i64 a3, .int .i64 a4], .agg #[.int .i64 b0, .int .i64 b1, .int .i64 b2, .int .i64 b3, .int .i64 b4]] w fun r w' => r = .returned (.bool z) ∧ Below w.heap.size w w' := by
  have HG : Hid (∀ w, Calls Try.prog 28 #[.agg #[.int .i64 a0, .int .i64 a1, .int .i64 a2, .int .i64 a3, .int .i64 a4]] w fun r w' => r = .returned (.int .i64 (gv (-1) a1 a2 a3)) ∧ Below w.heap.size w w') := fun w => lgiven_any _ _ _ _ _ w
  have HT : Hid (∀ w, Calls Try.prog 29 #[.agg #[.int .i64 b0, .int .i64 b1, .int .i64 b2, .int .i64 b3, .int .i64 b4]] w fun r w' => r = .returned (.int .i64 (tk (-1) b1 b2 b3)) ∧ Below w.heap.size w w') := fun w => ltaken_any _ _ _ _ _ w
  generalize gv (-1) a1 a2 a3 = x at hz HG
  generalize tk (-1) b1 b2 b3 = y at hz HT
  have h5 := h
  rcases h5 with h5 | ⟨h5, h6⟩
  all_goals
    clear h
    go_enter Try.func23, Try.ntmps23
    go_wp2_with fail
    have H2 := hide' (evtwo_new w a0 a1 a2 a3 a4 b0 b1 b2 b3 b4)
    generalize hwx : (w.alloc (.cells #[.int .i64 a0, .int .i64 a1, .int .i64 a2, .int .i64 a3, .int .i64 a4] 35)).alloc (.cells #[.int .i64 b0, .int .i64 b1, .int .i64 b2, .int .i64 b3, .int .i64 b4] 35) = wx at H2
    clear hwx
    obtain ⟨-, -, ⟨p0, p1, p2, p3, p4⟩, ⟨q0, q1, q2, q3, q4⟩⟩ := H2.out
    have D2 := hide' (H2.out.keep (Below.refl _ wx).drew)
    go_region_with (first | (go_at_call 28; refine (HG.out _).mono ?_; rintro e w3 ⟨rfl, hb3⟩; have H3 := hide' (D2.out.keep hb3); obtain ⟨-, -, -, ⟨s0, s1, s2, s3, s4⟩⟩ := H3.out) | (go_at_call 29; refine (HT.out _).mono ?_; rintro e w4 ⟨rfl, hb4⟩; have H4 := hide' (H3.out.keep hb4)))
    all_goals
      go_wp2_with fail
      go_ret
      exact ⟨rfl, H4.out.b⟩

set_option maxRecDepth 20000 in
set_option maxHeartbeats 4000000 in
theorem rightah_rest (a0 a1 a2 a3 a4 b0 b1 b2 b3 b4 : Int) (g : Bool) (w : World) (h1 : (a0 == b0) = false) (k5 : (a1 == 5) = false) (k8 : (a1 == 8) = false)
    (h : ((a1 == 6) = true ∧ g = (a2 == b0)) ∨ ((a1 == 6) = false ∧ (a1 == 11) = true ∧ (b1 == 7) = false ∧ g = false) ∨ ((a1 == 6) = false ∧ (a1 == 11) = true ∧ (b1 == 7) = true ∧ g = (b2 == a0)) ∨ ((a1 == 6) = false ∧ (a1 == 11) = false ∧ (a1 == 10) = true ∧ (b1 == 9) = false ∧ g = false) ∨ ((a1 == 6) = false ∧ (a1 == 11) = false ∧ (a1 == 10) = true ∧ (b1 == 9) = true ∧ g = (b0 == a3)) ∨ ((a1 == 6) = false ∧ (a1 == 11) = false ∧ (a1 == 10) = false ∧ g = false)) :
    Calls Try.prog 23 #[.agg #[.int .i64 a0, .int .i64 a1, .int .i64 a2, .int .i64 a3, .int .i64 a4], .agg #[.int .i64 b0, .int .i64 b1, .int .i64 b2, .int .i64 b3, .int .i64 b4]] w fun r w' => r = .returned (.bool g) ∧ Below w.heap.size w w' := by
  rcases h with ⟨h3, rfl⟩ | ⟨h3, h4, h5, rfl⟩ | ⟨h3, h4, h5, rfl⟩ | ⟨h3, h4, h5, h6, rfl⟩ | ⟨h3, h4, h5, h6, rfl⟩ | ⟨h3, h4, h5, rfl⟩
  all_goals
    go_enter Try.func23, Try.ntmps23
    go_wp2
    go_ret
    exact ⟨rfl, below2 w _ _⟩
end Go.Proofs.Ytclnnboaehpolaa
