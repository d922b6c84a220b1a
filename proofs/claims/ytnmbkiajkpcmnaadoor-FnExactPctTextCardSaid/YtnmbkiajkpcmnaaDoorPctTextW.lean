/- The walk over FnExactPctText. -/
import Derived.Test.YtnmbkiajkpcmnaaDoorJo
namespace Go.Proofs.YtnmbkiajkpcmnaaDoor
open Go.RowKit
open Rd Fl

set_option maxRecDepth 20000 in
set_option maxHeartbeats 4000000 in
theorem law_pcttext (A B : Option Addr) (r c : List Int) (ca cb : Nat) (hr : r.length ≤ 9223372036854775807) (hc : c.length ≤ 9223372036854775807) (w : World) (hA : LAt iv w A r) (hB : LAt iv w B c) (hP : Pow w) :
    Calls Tryd.prog 3 #[.agg #[.slice A r.length ca, .slice B c.length cb]] w fun e w' => e = .returned (.bool true) ∧ Below w.heap.size w w' := by
  have HSZ := hide' (fun w => szpct_any A B r.length ca c.length cb 1048576 (by omega) (by omega) hr hc w)
  have HT0 := hide' (fun hl hm w hA hB => topct_any A B r c ca cb hl hm w hA hB)
  have HS0 := hide' (fun hr hc A B ca cb hca hcm w hA hB => spcttext_any A B r c ca cb hr hc hca hcm w hA hB)
  have HI0 := hide' (fun hr hc A B ca cb w hA hB hP => ipcttext_any A B r c ca cb hr hc w hA hB hP)
  have HE0 := hide' (fun hl hm A B A' B' ca cb ca' cb' w h1 h2 h3 h4 => eqpct_any A B A' B' r c ca cb ca' cb' hl hm w h1 h2 h3 h4)
  have HAA := hide' hA
  have HPP := hide' hP
  have HBB := hide' hB
  generalize goodC r c = g at HS0 HI0
  generalize pctAns r c = tt at HS0 HI0
  have hss : (tt.toList == tt.toList) = true := by simp
  have hgg : (g != g) = false := by simp
  clear hA hB hr hc hP
  go_enter Tryd.func3, Tryd.ntmps3
  go_wp2_with fail
  have B0 := hide' ((Below.refl _ w).up (.cells #[.slice A r.length ca, .slice B c.length cb] 24))
  have P0 := hide' (cbox_new w A B r.length ca c.length cb 24)
  refine (HSZ.out _).mono ?_
  rintro e w1 ⟨⟨n, rfl, hn1, hn2, hn3⟩, hb1⟩
  have P1 := hide' (P0.out.keep hb1)
  have B1 := hide' (B0.out.trans (hb1.mono B0.out.size))
  clear hb1
  obtain ⟨p0, p1⟩ := P1.out
  by_cases hn0 : n < 0
  · clear hn3
    go_wp2_with fail
    go_ret
    exact ⟨rfl, B1.out⟩
  · obtain ⟨hl, hm⟩ := hn3 (by omega)
    have HT := hide' (HT0.out hl hm)
    have HE := hide' (HE0.out hl hm)
    have HS := hide' (HS0.out hl hm)
    have HI := hide' (HI0.out hl hm)
    have HL := hide' hl
    clear hn3 HT0 HE0 HS0 HI0 hl hm HSZ hn1 hn2
    go_wp2_with fail
    refine (HT.out _ (HAA.out.keep B1.out) (HBB.out.keep B1.out)).mono ?_
    rintro e w2 ⟨⟨M2, N2, rfl, -, -, -, ho2, hq2⟩, hb2⟩
    have P2 := hide' (P1.out.keep hb2)
    have B2 := hide' (B1.out.trans (hb2.mono B1.out.size))
    have O2 := hide' (And.intro ho2.at hq2.at)
    clear hb2 ho2 hq2 p0 p1
    go_wp2_with fail
    refine (HS.out _ _ _ _ (Nat.le_refl _) HL.out _ O2.out.1 O2.out.2).mono ?_
    rintro e w3 ⟨rfl, hb3⟩
    have P3 := hide' (P2.out.keep hb3)
    have B3 := hide' (B2.out.trans (hb3.mono B2.out.size))
    clear hb3
    obtain ⟨p0, p1⟩ := P3.out
    go_wp2_with fail
    refine (HT.out _ (HAA.out.keep B3.out) (HBB.out.keep B3.out)).mono ?_
    rintro e w4 ⟨⟨M4, N4, rfl, -, -, -, ho4, hq4⟩, hb4⟩
    have P4 := hide' (P3.out.keep hb4)
    have B4 := hide' (B3.out.trans (hb4.mono B3.out.size))
    have O4 := hide' (And.intro ho4.at hq4.at)
    clear hb4 ho4 hq4 p0 p1
    go_wp2_with fail
    have B5 := hide' (B4.out.up (.cells #[.slice (some ⟨M4, 0, none⟩) r.length r.length, .slice (some ⟨N4, 0, none⟩) c.length c.length] 28))
    have K5 := hide' ((Below.refl _ w4).up (.cells #[.slice (some ⟨M4, 0, none⟩) r.length r.length, .slice (some ⟨N4, 0, none⟩) c.length c.length] 28))
    have Q5 := hide' (cbox_new w4 (some ⟨M4, 0, none⟩) (some ⟨N4, 0, none⟩) r.length r.length c.length c.length 28)
    refine (HI.out _ _ _ _ _ (O4.out.1.keep K5.out) (O4.out.2.keep K5.out) (HPP.out.below B5.out)).mono ?_
    rintro e w6 ⟨rfl, hb6⟩
    have P6 := hide' ((P4.out.keep K5.out).keep hb6)
    have Q6 := hide' (Q5.out.keep hb6)
    have O6 := hide' (And.intro ((O4.out.1.keep K5.out).keep hb6) ((O4.out.2.keep K5.out).keep hb6))
    have B6 := hide' (B5.out.trans (hb6.mono B5.out.size))
    clear hb6
    obtain ⟨p0, p1⟩ := P6.out
    obtain ⟨q0, q1⟩ := Q6.out
    generalize w4.heap.size = X at *
    go_wp2_with fail
    go_region_with (first
      | (go_at_call 7; refine (HT.out _ (HAA.out.keep B6.out.drew) (HBB.out.keep B6.out.drew)).mono ?_; rintro e w7 ⟨⟨M7, N7, rfl, -, -, -, ho7, hq7⟩, hb7⟩; have B7 := hide' (first_below2 B6.out hb7); have O7 := hide' (And.intro ho7.at hq7.at); have K7 := hide' ((Below.refl _ w6).drew.trans hb7); have f0 := keep_cell K7.out q0; have f1 := keep_cell K7.out q1; clear q0 q1 ho7 hq7 hb7)
      | (go_at_call 9; refine (HE.out _ _ _ _ _ _ _ _ _ (O6.out.1.keep K7.out) (O6.out.2.keep K7.out) O7.out.1 O7.out.2).mono ?_; rintro e w8 ⟨rfl, hb8⟩; have B8 := hide' (B7.out.trans (hb8.mono B7.out.size)); clear hb8))
    all_goals
      go_wp2_with fail
      go_ret
      exact ⟨rfl, B8.out⟩
end Go.Proofs.YtnmbkiajkpcmnaaDoor
