/- Events that touch a cell: data. Events that touch a cell, and those that may race: both sides. -/
import Derived.Test.YtmflbibogkebmaaQa
import Derived.Test.YtmflbibogkebmaaQd
namespace Go.Proofs.Ytmflbibogkebmaa
open Go.RowKit
open Rd Fl

/-- an event touches a cell -/
def tchB (e : EvD) : Bool := (e.kd == 2) || (e.kd == 3)
/-- the cell that is touched, as the code has it -/
def tchN (e : EvD) : Int := if tchB e = true then e.ob else -1
end Go.Proofs.Ytmflbibogkebmaa
namespace Go.Proofs.Ytmflbibogkebmaa
open Go.RowKit
open Rd Fl

set_option maxRecDepth 20000 in
set_option maxHeartbeats 1000000 in
theorem touched_any (e : EvD) (w : World) : Calls Try.prog 44 #[evV e] w fun r w' => r = .returned (.int .i64 (tchN e)) ∧ Below w.heap.size w w' := by
  obtain ⟨r0, r1, r2, r3, r4⟩ := e
  unfold tchN tchB evV
  simp only
  rcases (by cases (r1 == 2) <;> cases (r1 == 3) <;> simp : ((r1 == 2) = true) ∨ ((r1 == 2) = false ∧ (r1 == 3) = true) ∨ ((r1 == 2) = false ∧ (r1 == 3) = false)) with h | ⟨h, k⟩ | ⟨h, k⟩
  all_goals
    go_enter Try.func44, Try.ntmps44
    go_wp2
    all_goals
      go_ret
      exact ⟨by simp_all, (Below.refl _ w).up _⟩
set_option maxRecDepth 20000 in
set_option maxHeartbeats 1000000 in
theorem l7touch_any (e : EvD) (w : World) : Calls Try.prog 41 #[evV e] w fun r w' => r = .returned (.bool (tchB e)) ∧ Below w.heap.size w w' := by
  obtain ⟨r0, r1, r2, r3, r4⟩ := e
  unfold tchB evV
  simp only
  rcases (by cases (r1 == 2) <;> cases (r1 == 3) <;> simp : ((r1 == 2) = true) ∨ ((r1 == 2) = false ∧ (r1 == 3) = true) ∨ ((r1 == 2) = false ∧ (r1 == 3) = false)) with h | ⟨h, k⟩ | ⟨h, k⟩
  all_goals
    go_enter Try.func41, Try.ntmps41
    go_wp2
    all_goals
      go_ret
      exact ⟨by simp_all, (Below.refl _ w).up _⟩

end Go.Proofs.Ytmflbibogkebmaa
