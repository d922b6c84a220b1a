/- FnExactClockLess walked. -/
import Derived.Test.YtiabocbabpcofaaQg
namespace Go.Proofs.Ytiabocbabpcofaa
open Go.RowKit
open Rd Fl

set_option maxRecDepth 20000 in
set_option maxHeartbeats 8000000 in
theorem law_clockless (A B : Option Addr) (l m : List Int) (ca cb : Nat) (hl : l.length ≤ 9223372036854775807) (hm : m.length ≤ 9223372036854775807) (w : World) (hA : LAt iv w A l) (hB : LAt iv w B m) :
    Calls Try.prog 7 #[.slice A l.length ca, .slice B m.length cb] w fun e w' => e = .returned (.bool true) ∧ Below w.heap.size w w' := by
  have hl9 : (l.length : Int) ≤ 9223372036854775807 := by omega
  have hm9 : (m.length : Int) ≤ 9223372036854775807 := by omega
  by_cases h1 : l.length ≤ 1048576
  · have d1 : decide ((1048576 : Int) < l.length) = false := decide_eq_false (by omega)
    by_cases h2 : m.length ≤ 1048576
    · have d2 : decide ((1048576 : Int) < m.length) = false := decide_eq_false (by omega)
      have HTA := hide' (fun w hA => toints_any A l ca h1 w hA)
      have HTB := hide' (fun w hB => toints_any B m cb h2 w hB)
      have HEA := hide' (fun A B ca cb w hA hB => eqints_any A B l ca cb h1 w hA hB)
      have HEB := hide' (fun A B ca cb w hA hB => eqints_any A B m ca cb h2 w hA hB)
      have HS := hide' (fun A B ca cb w hA hB => scless_any A B l m ca cb h1 h2 w hA hB)
      have HI := hide' (fun A B ca cb w hA hB => icless_any A B l m ca cb h1 h2 w hA hB)
      have HA := hide' hA
      have HB := hide' hB
      clear h1 h2 hl hm hA hB
      generalize (lessT l m).1 = g at HS HI
      generalize (lessT l m).2 = g2 at HS HI
      have hgg : (g != g) = false := by simp
      have hg2 : (g2 != g2) = false := by simp
      go_enter Try.func7, Try.ntmps7
      go_wp2_with fail
      refine (HTA.out _ HA.out).mono ?_
      rintro e w1 ⟨rfl, -, o1, b1⟩
      have B1 := hide' b1
      have O1 := hide' o1.at
      clear b1 o1
      go_wp2_with fail
      refine (HTB.out _ (HB.out.keep B1.out)).mono ?_
      rintro e w2 ⟨rfl, -, o2, b2⟩
      have B2 := hide' (B1.out.trans (b2.mono B1.out.size))
      have P2 := hide' (O1.out.keep b2)
      have O2 := hide' o2.at
      clear b2 o2 O1 B1
      go_wp2_with fail
      refine (HS.out _ _ _ _ _ P2.out O2.out).mono ?_
      rintro e w3 ⟨rfl, b3⟩
      have B3 := hide' (B2.out.trans (b3.mono B2.out.size))
      clear b3 P2 O2 B2 HS
      go_wp2_with fail
      refine (HTA.out _ (HA.out.keep B3.out)).mono ?_
      rintro e w4 ⟨rfl, -, o4, b4⟩
      have B4 := hide' (B3.out.trans (b4.mono B3.out.size))
      have P4 := hide' o4.at
      clear b4 o4 B3
      go_wp2_with fail
      refine (HTB.out _ (HB.out.keep B4.out)).mono ?_
      rintro e w5 ⟨rfl, -, o5, b5⟩
      have B5 := hide' (B4.out.trans (b5.mono B4.out.size))
      have P5 := hide' (P4.out.keep b5)
      have O5 := hide' o5.at
      clear b5 o5 B4 P4
      go_wp2_with fail
      refine (HI.out _ _ _ _ _ P5.out O5.out).mono ?_
      rintro e w6 ⟨rfl, b6⟩
      have B6 := hide' (B5.out.trans (b6.mono B5.out.size))
      have P6 := hide' (P5.out.keep b6)
      have O6 := hide' (O5.out.keep b6)
      clear b6 B5 P5 O5 HI
      go_wp2_with fail
      refine (HTA.out _ (HA.out.keep B6.out)).mono ?_
      rintro e w7 ⟨rfl, -, o7, b7⟩
      have B7 := hide' (B6.out.trans (b7.mono B6.out.size))
      have P7 := hide' (P6.out.keep b7)
      have O7 := hide' (O6.out.keep b7)
      have Q7 := hide' o7.at
      clear b7 o7 B6 P6 O6
      go_wp2_with fail
      refine (HEA.out _ _ _ _ _ P7.out Q7.out).mono ?_
      rintro e w8 ⟨rfl, b8⟩
      have B8 := hide' (B7.out.trans (b8.mono B7.out.size))
      have O8 := hide' (O7.out.keep b8)
      clear b8 B7 P7 O7 Q7
      go_wp2_with fail
      refine (HTB.out _ (HB.out.keep B8.out)).mono ?_
      rintro e w9 ⟨rfl, -, o9, b9⟩
      have B9 := hide' (B8.out.trans (b9.mono B8.out.size))
      have O9 := hide' (O8.out.keep b9)
      have Q9 := hide' o9.at
      clear b9 o9 B8 O8
      go_wp2_with fail
      refine (HEB.out _ _ _ _ _ O9.out Q9.out).mono ?_
      rintro e w10 ⟨rfl, b10⟩
      have B10 := hide' (B9.out.trans (b10.mono B9.out.size))
      clear b10
      go_wp2_with fail
      go_ret
      exact ⟨rfl, B10.out⟩
    · have d2 : decide ((1048576 : Int) < m.length) = true := decide_eq_true (by omega)
      clear h1 h2 hl hm hA hB
      go_enter Try.func7, Try.ntmps7
      go_wp2_with fail
      go_ret
      exact ⟨rfl, Below.refl _ _⟩
  · have d1 : decide ((1048576 : Int) < l.length) = true := decide_eq_true (by omega)
    clear h1 hl hm hA hB
    go_enter Try.func7, Try.ntmps7
    go_wp2_with fail
    go_ret
    exact ⟨rfl, Below.refl _ _⟩
end Go.Proofs.Ytiabocbabpcofaa
