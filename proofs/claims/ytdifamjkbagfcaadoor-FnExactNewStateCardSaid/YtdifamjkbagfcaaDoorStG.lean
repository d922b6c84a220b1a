/- Good states: what the specification asks of a thread. -/
import Derived.Test.YtdifamjkbagfcaaDoorSt
import Derived.Test.YtdifamjkbagfcaaDoorPrgI
import Derived.BigQuiet
namespace Go.Proofs.YtdifamjkbagfcaaDoor
open Go.RowKit
open Rd Fl

/-- what is asked of a thread's Cond and Lock -/
def restB (lk cd : Int) (st c l : Int) : Bool := if st = 3 ∨ st = 4 then decide (0 ≤ c ∧ c ≤ cd - 1) && decide (0 ≤ l ∧ l ≤ lk - 1) else decide (c = -1) && decide (l = -1)
/-- what is asked of a thread -/
def thB (lk cd : Int) (rs : List (List OpD)) (t : ThD) : Bool :=
  decide (0 ≤ t.rt ∧ t.rt ≤ (rs.length : Int) - 1) && decide (1 ≤ t.st ∧ t.st ≤ 4) && decide (t.sk.length ≤ 8) && decide (0 ≤ t.pc ∧ t.pc ≤ ((rs.getD t.rt.toNat []).length : Int)) && restB lk cd t.st t.cd t.lk

/-- A thread lies boxed at block N. -/
structure TBox (N : Nat) (r0 r1 r2 r3 r4 : Int) (S : Option Addr) (n cap : Nat) (w : World) : Prop where
  c0 : w.cell? ⟨N, 0, none⟩ = some (.int .i64 r0)
  c1 : w.cell? ⟨N, 1, none⟩ = some (.int .i64 r1)
  c2 : w.cell? ⟨N, 2, none⟩ = some (.int .i64 r2)
  c3 : w.cell? ⟨N, 3, none⟩ = some (.int .i64 r3)
  c4 : w.cell? ⟨N, 4, none⟩ = some (.int .i64 r4)
  c5 : w.cell? ⟨N, 5, none⟩ = some (.slice S n cap)
theorem TBox.keep {N : Nat} {r0 r1 r2 r3 r4 : Int} {S : Option Addr} {n cap : Nat} {w w' : World} (h : TBox N r0 r1 r2 r3 r4 S n cap w) (hb : Below w.heap.size w w') : TBox N r0 r1 r2 r3 r4 S n cap w' :=
  ⟨keep_cell hb h.c0, keep_cell hb h.c1, keep_cell hb h.c2, keep_cell hb h.c3, keep_cell hb h.c4, keep_cell hb h.c5⟩
theorem tbox_new (w : World) (r0 r1 r2 r3 r4 : Int) (S : Option Addr) (n cap : Nat) (t : TypeId) : TBox w.heap.size r0 r1 r2 r3 r4 S n cap (w.alloc (.cells #[.int .i64 r0, .int .i64 r1, .int .i64 r2, .int .i64 r3, .int .i64 r4, .slice S n cap] t)) := by
  refine ⟨?_, ?_, ?_, ?_, ?_, ?_⟩ <;> (rw [World.cell?_alloc_new]; rfl)

set_option maxRecDepth 20000 in
set_option maxHeartbeats 2000000 in
theorem l3thread_rt (cl lk cd : Int) (R : Option Addr) (n cap : Nat) (hn : (n : Int) ≤ 4) (r0 r1 r2 r3 r4 : Int) (S : Option Addr) (m kp : Nat) (h : decide (0 ≤ r0 ∧ r0 ≤ (n : Int) - 1) = false ∨ (decide (0 ≤ r0 ∧ r0 ≤ (n : Int) - 1) = true ∧ decide (1 ≤ r2 ∧ r2 ≤ 4) = false) ∨ (decide (0 ≤ r0 ∧ r0 ≤ (n : Int) - 1) = true ∧ decide (1 ≤ r2 ∧ r2 ≤ 4) = true ∧ (8 : Int) < m)) (w : World) :
    Calls Tryd.prog 119 #[.agg #[.int .i64 cl, .int .i64 lk, .int .i64 cd, .slice R n cap], .agg #[.int .i64 r0, .int .i64 r1, .int .i64 r2, .int .i64 r3, .int .i64 r4, .slice S m kp]] w fun e w' => e = .returned (.bool false) ∧ Below w.heap.size w w' := by
  rcases h with h1 | ⟨h1, h2⟩ | ⟨h1, h2, h3⟩
  all_goals
    go_enter Tryd.func119, Tryd.ntmps119
    go_wp2_with (go_at_call 68; refine (l1in_any _ _ _ _).mono ?_; rintro e w' ⟨rfl, rfl⟩)
    go_ret
    exact ⟨rfl, ((Below.refl _ w).up _).up _⟩

set_option maxRecDepth 20000 in
set_option maxHeartbeats 2000000 in
theorem l3thread_in (cl lk cd : Int) (hlk : 0 ≤ lk ∧ lk ≤ 4) (hcd : 0 ≤ cd ∧ cd ≤ 2) (b off : Nat) (n cap : Nat) (hn : (n : Int) ≤ 4) (k : Nat) (hk : (k : Int) < n) (r1 r2 r3 r4 : Int) (S : Option Addr) (m kp : Nat) (hm : (m : Int) ≤ 8) (hst : 1 ≤ r2 ∧ r2 ≤ 4) (A : Option Addr) (long cp : Nat)
    (w : World) (hc : w.cell? ⟨b, off + k, none⟩ = some (.slice A long cp)) :
    Calls Tryd.prog 119 #[.agg #[.int .i64 cl, .int .i64 lk, .int .i64 cd, .slice (some ⟨b, off, none⟩) n cap], .agg #[.int .i64 (k : Int), .int .i64 r1, .int .i64 r2, .int .i64 r3, .int .i64 r4, .slice S m kp]] w fun e w' => e = .returned (.bool (decide (0 ≤ r1 ∧ r1 ≤ (long : Int)) && restB lk cd r2 r3 r4)) ∧ Below w.heap.size w w' := by
  have hA : decide (0 ≤ (k : Int) ∧ (k : Int) ≤ (n : Int) - 1) = true := by rw [decide_eq_true_eq]; omega
  have hB : decide (1 ≤ r2 ∧ r2 ≤ 4) = true := decide_eq_true hst
  have hbw : Below w.heap.size w ((w.alloc (.cells #[.int .i64 cl, .int .i64 lk, .int .i64 cd, .slice (some ⟨b, off, none⟩) n cap] 30)).alloc (.cells #[.int .i64 (k : Int), .int .i64 r1, .int .i64 r2, .int .i64 r3, .int .i64 r4, .slice S m kp] 88)) := ((Below.refl _ w).up _).up _
  have hc2 := keep_cell hbw hc
  clear hbw
  cases hD : decide (0 ≤ r1 ∧ r1 ≤ (long : Int))
  · go_enter Tryd.func119, Tryd.ntmps119
    go_wp2_with (go_at_call 68; refine (l1in_any _ _ _ _).mono ?_; rintro e w' ⟨rfl, rfl⟩)
    go_quiet ((go_at_call 68; exact Calls.quiet_of_same (l1in_any _ _ _ _)))
    go_wp2_with fail
    go_ret
    exact ⟨by simp, below_draws (((Below.refl _ w).up _).up _) _⟩
  · rcases (by omega : r2 = 1 ∨ r2 = 2 ∨ r2 = 3 ∨ r2 = 4) with h | h | h | h
    all_goals
      subst h
      clear hst hB
    case inr.inr.inl | inr.inr.inr =>
      cases hE : decide (0 ≤ r3 ∧ r3 ≤ cd - 1)
      all_goals
        go_enter Tryd.func119, Tryd.ntmps119
        go_wp2_with (go_at_call 68; refine (l1in_any _ _ _ _).mono ?_; rintro e w' ⟨rfl, rfl⟩)
        go_quiet ((go_at_call 68; exact Calls.quiet_of_same (l1in_any _ _ _ _)))
        go_wp2_with (go_at_call 68; refine (l1in_any _ _ _ _).mono ?_; rintro e w' ⟨rfl, rfl⟩)
        go_ret
        exact ⟨by simp [restB, hE], below_draws (((Below.refl _ w).up _).up _) _⟩
    all_goals
      by_cases h3 : r3 = -1
      · subst h3
        go_enter Tryd.func119, Tryd.ntmps119
        go_wp2_with (go_at_call 68; refine (l1in_any _ _ _ _).mono ?_; rintro e w' ⟨rfl, rfl⟩)
        go_quiet ((go_at_call 68; exact Calls.quiet_of_same (l1in_any _ _ _ _)))
        go_wp2_with (go_at_call 68; refine (l1in_any _ _ _ _).mono ?_; rintro e w' ⟨rfl, rfl⟩)
        go_ret
        exact ⟨by simp [restB]; rfl, below_draws (((Below.refl _ w).up _).up _) _⟩
      · have h3' : ¬ (-1 = r3) := fun h => h3 h.symm
        go_enter Tryd.func119, Tryd.ntmps119
        go_wp2_with (go_at_call 68; refine (l1in_any _ _ _ _).mono ?_; rintro e w' ⟨rfl, rfl⟩)
        go_quiet ((go_at_call 68; exact Calls.quiet_of_same (l1in_any _ _ _ _)))
        go_wp2_with (go_at_call 68; refine (l1in_any _ _ _ _).mono ?_; rintro e w' ⟨rfl, rfl⟩)
        go_ret
        exact ⟨by simp [restB, h3], below_draws (((Below.refl _ w).up _).up _) _⟩
end Go.Proofs.YtdifamjkbagfcaaDoor
