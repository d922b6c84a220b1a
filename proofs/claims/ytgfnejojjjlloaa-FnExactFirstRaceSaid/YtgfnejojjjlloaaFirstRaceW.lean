/- FnExactFirstRace walked. -/
import Derived.Test.YtgfnejojjjlloaaVj
import Derived.Test.YtgfnejojjjlloaaRnB
namespace Go.Proofs.Ytgfnejojjjlloaa
open Go.RowKit
open Rd Fl

set_option maxRecDepth 20000 in
set_option maxHeartbeats 4000000 in
theorem law_firstrace (A : Option Addr) (l : List EvD) (cap : Nat) (hl : l.length ≤ 9223372036854775807) (w : World) (hA : EvsAt w A l) :
    Calls Try.prog 4 #[.slice A l.length cap] w fun e w' => e = .returned (.bool true) ∧ Below w.heap.size w w' := by
  have HSZ := hide' (szevs_any A l.length cap 1048576 (by omega) (by omega) hl w)
  have HT0 := hide' (fun hl w hA => toevs_any A l cap hl w hA)
  have HS0 := hide' (fun hl A w hA => sfirst_any A l l.length (Nat.le_refl _) hl w hA)
  have HI0 := hide' (fun hl A w hA => ifirst_any A l l.length (Nat.le_refl _) hl w hA)
  have HE0 := hide' (fun hl A B ca cb w hA hB => eqevs_any A B l ca cb hl w hA hB)
  have HA := hide' hA
  clear hl hA
  generalize (firstR (racesN l)).2 = g at *
  generalize (firstR (racesN l)).1 = x at *
  obtain ⟨x0, x1, x2⟩ := x
  unfold rcV at HS0 HI0
  simp only at HS0 HI0
  have HQ := hide' (fun w => eqrace_any x0 x1 x2 w)
  have hgg : (g != g) = false := by simp
  go_enter Try.func4, Try.ntmps4
  go_wp2_with fail
  refine HSZ.out.mono ?_
  rintro e w1 ⟨⟨n, rfl, hn1, hn2, hn3⟩, h1⟩
  subst w1
  by_cases hn0 : n < 0
  · clear hn3
    go_wp2_with fail
    go_ret
    exact ⟨rfl, Below.refl _ _⟩
  · have hl : l.length ≤ 1048576 := by have := hn3 (by omega); omega
    have HT := hide' (HT0.out hl)
    have HS := hide' (HS0.out hl)
    have HI := hide' (HI0.out hl)
    have HE := hide' (HE0.out hl)
    clear hn3 HT0 HS0 HI0 HE0 hl HSZ hn1 hn2
    go_wp2_with fail
    refine (HT.out _ HA.out).mono ?_
    rintro e w2 ⟨rfl, -, ho2, hb2⟩
    have O2 := hide' ho2.at
    have B2 := hide' hb2
    clear ho2 hb2
    go_wp2_with fail
    refine (HS.out _ _ O2.out).mono ?_
    rintro e w3 ⟨rfl, hb3⟩
    have B3 := hide' (B2.out.trans (hb3.mono B2.out.size))
    have U3 := hide' (B3.out.up (.cells #[.int .i64 x0, .int .i64 x1, .int .i64 x2] 35))
    have Q3 := hide' (rcall_new w3 x0 x1 x2)
    clear hb3 O2 B2 HS
    go_wp2_with fail
    refine (HT.out _ (HA.out.keep U3.out)).mono ?_
    rintro e w4 ⟨rfl, -, ho4, hb4⟩
    have B4 := hide' (U3.out.trans (hb4.mono U3.out.size))
    have hK : (w3.alloc (.cells #[.int .i64 x0, .int .i64 x1, .int .i64 x2] 35)).heap.size = w3.heap.size + 1 := by simp
    rw [hK] at ho4
    have O4 := hide' ho4.at
    have Q4 := hide' (Q3.out.keep hb4)
    clear hb4 B3 U3 ho4 Q3 hK
    go_wp2_with fail
    refine (HI.out _ _ O4.out).mono ?_
    rintro e w5 ⟨rfl, hb5⟩
    have B5 := hide' ((B4.out.trans (hb5.mono B4.out.size)).up (.cells #[.int .i64 x0, .int .i64 x1, .int .i64 x2] 35))
    have V5 := hide' ((Below.refl _ w5).up (.cells #[.int .i64 x0, .int .i64 x1, .int .i64 x2] 35))
    have O5 := hide' ((O4.out.keep hb5).keep V5.out)
    have P5 := hide' (rcall_new w5 x0 x1 x2)
    have Q5 := hide' ((Q4.out.keep hb5).keep V5.out)
    clear hb5 O4 B4 HI Q4
    obtain ⟨p0, p1, p2⟩ := P5.out
    obtain ⟨q0, q1, q2⟩ := Q5.out
    go_wp2_with fail
    refine (HQ.out _).mono ?_
    rintro e w8 ⟨rfl, hb8⟩
    have B8 := hide' (B5.out.trans (hb8.mono B5.out.size))
    have O8 := hide' (O5.out.keep hb8)
    clear hb8 B5 O5 p0 p1 p2 q0 q1 q2
    go_wp2_with fail
    refine (HT.out _ (HA.out.keep B8.out)).mono ?_
    rintro e w6 ⟨rfl, -, ho6, hb6⟩
    have B6 := hide' (B8.out.trans (hb6.mono B8.out.size))
    have O6 := hide' (O8.out.keep hb6)
    have P6 := hide' ho6.at
    clear hb6 O8 B8 ho6
    go_wp2_with fail
    refine (HE.out _ _ _ _ _ O6.out P6.out).mono ?_
    rintro e w7 ⟨rfl, hb7⟩
    have B7 := hide' (B6.out.trans (hb7.mono B6.out.size))
    clear hb7
    go_wp2_with fail
    go_ret
    exact ⟨rfl, B7.out⟩
end Go.Proofs.Ytgfnejojjjlloaa
