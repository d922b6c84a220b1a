/- impl.mayRace: way 1. -/
import Derived.Test.YtgfnejojjjlloaaVc
namespace Go.Proofs.Ytgfnejojjjlloaa
open Go.RowKit
open Rd Fl

set_option maxRecDepth 20000 in
set_option maxHeartbeats 8000000 in
theorem mayrace_1 (a0 a1 a2 a3 a4 b0 b1 b2 b3 b4 : Int) (w : World) (h3 : (a1 == 3) = false) (h4 : (b1 == 3) = false) :
    Calls Try.prog 39 #[.agg #[.int .i64 a0, .int .i64 a1, .int .i64 a2, .int .i64 a3, .int .i64 a4], .agg #[.int .i64 b0, .int .i64 b1, .int .i64 b2, .int .i64 b3, .int .i64 b4]] w fun r w' => r = .returned (.bool false) ∧ Below w.heap.size w w' := by
  have H2 := hide' (evtwo_new w a0 a1 a2 a3 a4 b0 b1 b2 b3 b4)
  go_enter Try.func39, Try.ntmps39
  go_wp2_with fail
  generalize hwx : (w.alloc (.cells #[.int .i64 a0, .int .i64 a1, .int .i64 a2, .int .i64 a3, .int .i64 a4] 56)).alloc (.cells #[.int .i64 b0, .int .i64 b1, .int .i64 b2, .int .i64 b3, .int .i64 b4] 56) = wx at H2
  clear hwx
  obtain ⟨-, -, ⟨p0, p1, p2, p3, p4⟩, ⟨q0, q1, q2, q3, q4⟩⟩ := H2.out
  have D2 := hide' (H2.out.keep (Below.refl _ wx).drew)
  first | go_region_with fail | fail
  all_goals
    go_wp2_with fail
    go_ret
    exact ⟨rfl, D2.out.b⟩
end Go.Proofs.Ytgfnejojjjlloaa
