/- impl.mayRace: way 3. impl.mayRace: way 4. -/
import Derived.Test.YtgfnejojjjlloaaVc
namespace Go.Proofs.Ytgfnejojjjlloaa
open Go.RowKit
open Rd Fl

set_option maxRecDepth 20000 in
set_option maxHeartbeats 8000000 in
theorem mayrace_3 (a0 a1 a2 a3 a4 b0 b1 b2 b3 b4 x y : Int) (w : World) (h3 : (a1 == 3) = true) (hz : (x == y) = true)
    (HG : Hid (∀ w, Calls Try.prog 45 #[.agg #[.int .i64 a0, .int .i64 a1, .int .i64 a2, .int .i64 a3, .int .i64 a4]] w fun r w' => r = .returned (.int .i64 x) ∧ Below w.heap.size w w'))
    (HT : Hid (∀ w, Calls Try.prog 45 #[.agg #[.int .i64 b0, .int .i64 b1, .int .i64 b2, .int .i64 b3, .int .i64 b4]] w fun r w' => r = .returned (.int .i64 y) ∧ Below w.heap.size w w')) :
    Calls Try.prog 39 #[.agg #[.int .i64 a0, .int .i64 a1, .int .i64 a2, .int .i64 a3, .int .i64 a4], .agg #[.int .i64 b0, .int .i64 b1, .int .i64 b2, .int .i64 b3, .int .i64 b4]] w fun r w' => r = .returned (.bool (!(a0 == b0))) ∧ Below w.heap.size w w' := by
  have H2 := hide' (evtwo_new w a0 a1 a2 a3 a4 b0 b1 b2 b3 b4)
  go_enter Try.func39, Try.ntmps39
  go_wp2_with fail
  generalize hwx : (w.alloc (.cells #[.int .i64 a0, .int .i64 a1, .int .i64 a2, .int .i64 a3, .int .i64 a4] 56)).alloc (.cells #[.int .i64 b0, .int .i64 b1, .int .i64 b2, .int .i64 b3, .int .i64 b4] 56) = wx at H2
  clear hwx
  obtain ⟨-, -, ⟨p0, p1, p2, p3, p4⟩, ⟨q0, q1, q2, q3, q4⟩⟩ := H2.out
  have D2 := hide' (H2.out.keep (Below.refl _ wx).drew)
  first | go_region_with (first | (go_at_call 45; refine (HG.out _).mono ?_; rintro e w3 ⟨rfl, hb3⟩; have H3 := hide' (D2.out.keep hb3); clear hb3 D2 HG p0 p1 p2 p3 p4 q0 q1 q2 q3 q4; obtain ⟨-, -, ⟨t0, t1, t2, t3, t4⟩, ⟨s0, s1, s2, s3, s4⟩⟩ := H3.out) | (go_at_call 45; refine (HT.out _).mono ?_; rintro e w4 ⟨rfl, hb4⟩; have H4 := hide' (H3.out.keep hb4); clear hb4 H3 HT t0 t1 t2 t3 t4 s0 s1 s2 s3 s4; obtain ⟨-, -, ⟨u0, u1, u2, u3, u4⟩, ⟨v0, v1, v2, v3, v4⟩⟩ := H4.out)) | fail
  all_goals
    go_wp2_with fail
    go_ret
    exact ⟨rfl, H4.out.b⟩
end Go.Proofs.Ytgfnejojjjlloaa
namespace Go.Proofs.Ytgfnejojjjlloaa
open Go.RowKit
open Rd Fl

set_option maxRecDepth 20000 in
set_option maxHeartbeats 8000000 in
theorem mayrace_4 (a0 a1 a2 a3 a4 b0 b1 b2 b3 b4 x y : Int) (w : World) (h3 : (a1 == 3) = false) (h4 : (b1 == 3) = true) (hz : (x == y) = false)
    (HG : Hid (∀ w, Calls Try.prog 45 #[.agg #[.int .i64 a0, .int .i64 a1, .int .i64 a2, .int .i64 a3, .int .i64 a4]] w fun r w' => r = .returned (.int .i64 x) ∧ Below w.heap.size w w'))
    (HT : Hid (∀ w, Calls Try.prog 45 #[.agg #[.int .i64 b0, .int .i64 b1, .int .i64 b2, .int .i64 b3, .int .i64 b4]] w fun r w' => r = .returned (.int .i64 y) ∧ Below w.heap.size w w')) :
    Calls Try.prog 39 #[.agg #[.int .i64 a0, .int .i64 a1, .int .i64 a2, .int .i64 a3, .int .i64 a4], .agg #[.int .i64 b0, .int .i64 b1, .int .i64 b2, .int .i64 b3, .int .i64 b4]] w fun r w' => r = .returned (.bool false) ∧ Below w.heap.size w w' := by
  have H2 := hide' (evtwo_new w a0 a1 a2 a3 a4 b0 b1 b2 b3 b4)
  go_enter Try.func39, Try.ntmps39
  go_wp2_with fail
  generalize hwx : (w.alloc (.cells #[.int .i64 a0, .int .i64 a1, .int .i64 a2, .int .i64 a3, .int .i64 a4] 56)).alloc (.cells #[.int .i64 b0, .int .i64 b1, .int .i64 b2, .int .i64 b3, .int .i64 b4] 56) = wx at H2
  clear hwx
  obtain ⟨-, -, ⟨p0, p1, p2, p3, p4⟩, ⟨q0, q1, q2, q3, q4⟩⟩ := H2.out
  have D2 := hide' (H2.out.keep (Below.refl _ wx).drew)
  first | go_region_with (first | (go_at_call 45; refine (HG.out _).mono ?_; rintro e w3 ⟨rfl, hb3⟩; have H3 := hide' (D2.out.keep hb3); clear hb3 D2 HG p0 p1 p2 p3 p4 q0 q1 q2 q3 q4; obtain ⟨-, -, ⟨t0, t1, t2, t3, t4⟩, ⟨s0, s1, s2, s3, s4⟩⟩ := H3.out) | (go_at_call 45; refine (HT.out _).mono ?_; rintro e w4 ⟨rfl, hb4⟩; have H4 := hide' (H3.out.keep hb4); clear hb4 H3 HT t0 t1 t2 t3 t4 s0 s1 s2 s3 s4; obtain ⟨-, -, ⟨u0, u1, u2, u3, u4⟩, ⟨v0, v1, v2, v3, v4⟩⟩ := H4.out)) | fail
  all_goals
    go_wp2_with fail
    go_ret
    exact ⟨rfl, H4.out.b⟩
end Go.Proofs.Ytgfnejojjjlloaa
