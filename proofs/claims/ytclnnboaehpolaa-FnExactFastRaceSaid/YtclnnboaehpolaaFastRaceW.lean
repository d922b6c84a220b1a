/- FnExactFastRace walked. -/
import Derived.Test.YtclnnboaehpolaaVxl
import Derived.Test.YtclnnboaehpolaaVxf
namespace Go.Proofs.Ytclnnboaehpolaa
open Go.RowKit
open Rd Fl

set_option maxRecDepth 20000 in
set_option maxHeartbeats 4000000 in
theorem law_fastrace (A : Option Addr) (l : List EvD) (cap : Nat) (hl : l.length ≤ 9223372036854775807) (w : World) (hA : EvsAt w A l) :
    Calls Try.prog 3 #[.slice A l.length cap] w fun e w' => e = .returned (.bool true) ∧ Below w.heap.size w w' := by
  have HSZ := hide' (szevs_any A l.length cap 1048576 (by omega) (by omega) hl w)
  have HT0 := hide' (fun hl w hA => toevs_any A l cap hl w hA)
  have HS0 := hide' (fun hl A cap w hA => sfast_any A l cap hl w hA)
  have HI0 := hide' (fun hl A cap hcap w hA => ifast_any A l cap hcap hl w hA)
  have HE0 := hide' (fun hl A B ca cb w hA hB => eqevs_any A B l ca cb hl w hA hB)
  have HA := hide' hA
  clear hl hA
  generalize (fastN l).1 = g at HS0 HI0
  generalize (fastN l).2.1 = g2 at HS0 HI0
  generalize (fastN l).2.2 = g3 at HS0 HI0
  have hgg : (g != g) = false := by simp
  have hg2 : (g2 != g2) = false := by simp
  have hg3 : (g3 != g3) = false := by simp
  go_enter Try.func3, Try.ntmps3
  go_wp2_with fail
  refine HSZ.out.mono ?_
  rintro e w1 ⟨⟨n, rfl, hn1, hn2, hn3⟩, h1⟩
  subst w1
  by_cases hn0 : n < 0
  · clear hn3
    go_wp2_with fail
    go_ret
    exact ⟨rfl, Below.refl _ _⟩
  · have hl : l.length ≤ 1048576 := by have := hn3 (by omega); omega
    have HT := hide' (HT0.out hl)
    have HS := hide' (HS0.out hl)
    have HI := hide' (HI0.out hl)
    have HE := hide' (HE0.out hl)
    clear hn3 HT0 HS0 HI0 HE0 hl HSZ hn1 hn2
    go_wp2_with fail
    refine (HT.out _ HA.out).mono ?_
    rintro e w2 ⟨rfl, -, ho2, hb2⟩
    have O2 := hide' ho2.at
    have B2 := hide' hb2
    clear ho2 hb2
    go_wp2_with fail
    refine (HS.out _ _ _ O2.out).mono ?_
    rintro e w3 ⟨rfl, hb3⟩
    have B3 := hide' (B2.out.trans (hb3.mono B2.out.size))
    clear hb3 O2 B2 HS
    go_wp2_with fail
    refine (HT.out _ (HA.out.keep B3.out)).mono ?_
    rintro e w4 ⟨rfl, -, ho4, hb4⟩
    have B4 := hide' (B3.out.trans (hb4.mono B3.out.size))
    have O4 := hide' ho4.at
    clear hb4 B3 ho4
    go_wp2_with fail
    refine (HI.out _ _ (Nat.le_refl _) _ O4.out).mono ?_
    rintro e w5 ⟨rfl, hb5⟩
    have B5 := hide' (B4.out.trans (hb5.mono B4.out.size))
    have O5 := hide' (O4.out.keep hb5)
    clear hb5 O4 B4 HI
    go_wp2_with fail
    refine (HT.out _ (HA.out.keep B5.out)).mono ?_
    rintro e w6 ⟨rfl, -, ho6, hb6⟩
    have B6 := hide' (B5.out.trans (hb6.mono B5.out.size))
    have O6 := hide' (O5.out.keep hb6)
    have P6 := hide' ho6.at
    clear hb6 O5 B5 ho6
    go_wp2_with fail
    refine (HE.out _ _ _ _ _ O6.out P6.out).mono ?_
    rintro e w7 ⟨rfl, hb7⟩
    have B7 := hide' (B6.out.trans (hb7.mono B6.out.size))
    clear hb7
    go_wp2_with fail
    go_ret
    exact ⟨rfl, B7.out⟩
end Go.Proofs.Ytclnnboaehpolaa
