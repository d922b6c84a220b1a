/- FnExactOrderOf walked. -/
import Derived.Test.YtmflbibogkebmaaOrderOfX
import Derived.Test.YtmflbibogkebmaaVf
import Derived.Test.YtmflbibogkebmaaRnB
namespace Go.Proofs.Ytmflbibogkebmaa
open Go.RowKit
open Rd Fl

set_option maxRecDepth 20000 in
set_option maxHeartbeats 8000000 in
theorem law_orderof (A : Option Addr) (l : List EvD) (cap : Nat) (hl : l.length ≤ 9223372036854775807) (w : World) (hA : EvsAt w A l) :
    Calls Try.prog 7 #[.slice A l.length cap] w fun e w' => e = .returned (.bool true) ∧ Below w.heap.size w w' := by
  have HSZ := hide' (szevs_any A l.length cap 1048576 (by omega) (by omega) hl w)
  have HT0 := hide' (fun hl w hA => toevs_any A l cap hl w hA)
  have HGS0 := hide' (fun hl A w hA => sorder_any A l l.length (Nat.le_refl _) hl w hA)
  have HGI0 := hide' (fun hl A w hA => iorder_all A l l.length (Nat.le_refl _) hl w hA)
  have HE0 := hide' (fun hl A B ca cb w hA hB => eqevs_any A B l ca cb hl w hA hB)
  have HM0 := hide' (fun hl cap M w hth => markevs_any (some ⟨M, 0, none⟩) l.length cap M 1 (by omega) (by omega) hl (fun _ => rfl) w hth)
  have HRR := hide' hA
  clear hl hA
  generalize hrl : ordR = rl at *
  generalize hg : okOrd l = g at *
  clear hrl hg
  have hgg : (g != g) = false := by simp
  go_enter Try.func7, Try.ntmps7
  go_wp2_with fail
  refine HSZ.out.mono ?_
  rintro e w1 ⟨⟨n, rfl, hn1, hn2, hn3⟩, h1⟩
  subst w1
  by_cases hn0 : n < 0
  · clear hn3
    go_wp2_with fail
    go_ret
    exact ⟨rfl, Below.refl _ _⟩
  · have hl : l.length ≤ 1048576 := by have := hn3 (by omega); omega
    have hl9 : (l.length : Int) ≤ 1048576 := by omega
    have HT := hide' (HT0.out hl)
    have HE := hide' (HE0.out hl)
    have HM := hide' (HM0.out hl)
    have HGS := hide' (HGS0.out hl)
    have HGI := hide' (HGI0.out hl)
    clear hn3 HT0 HE0 HM0 HGS0 HGI0 hl HSZ hn1 hn2
    go_wp2_with fail
    refine (HT.out _ HRR.out).mono ?_
    rintro e w2 ⟨rfl, -, ho2, hb2⟩
    have O2 := hide' ho2.at
    have B2 := hide' hb2
    clear ho2 hb2
    go_wp2_with fail
    refine (HGS.out _ _ O2.out).mono ?_
    rintro e w3 ⟨⟨v0, rfl, hr3⟩, hb3⟩
    have B3 := hide' (B2.out.trans (hb3.mono B2.out.size))
    have R3 := hide' (resi_less hr3 B2.out.size)
    clear hr3 hb3 O2 B2 HGS
    go_wp2_with fail
    refine (HT.out _ (HRR.out.keep B3.out)).mono ?_
    rintro e w4 ⟨rfl, hz4, ho4, hb4⟩
    have B4 := hide' (B3.out.trans (hb4.mono B3.out.size))
    have R4 := hide' (resi_keep R3.out hb4)
    have S4 := hide' ho4.at
    have I4 := hide' ho4.1
    have ZN := hide' (show w3.heap.size < w4.heap.size from hz4)
    have ZW := hide' (show w.heap.size ≤ w3.heap.size from B3.out.size)
    clear hz4 ho4 hb4 R3 B3
    generalize w3.heap.size = N at *
    go_wp2_with fail
    refine (HGI.out _ _ S4.out).mono ?_
    rintro e w6 ⟨⟨v, rfl, hr6⟩, hb6⟩
    have B6 := hide' (B4.out.trans (hb6.mono B4.out.size))
    have R6 := hide' (resi_keep R4.out hb6)
    have S6 := hide' (S4.out.keep hb6)
    have I6 := hide' (there_keep hb6 I4.out)
    have V6 := hide' hr6
    clear hr6 hb6 R4 S4 I4 B4
    generalize w4.heap.size = X at *
    generalize hhv : w6.heap.size = hv at V6
    clear hhv
    go_wp2_with fail
    refine (resi_eq V6.out R6.out).mono ?_
    rintro e w7 ⟨rfl, hb7⟩
    have B7 := hide' (B6.out.trans (hb7.mono B6.out.size))
    have R7 := hide' (resi_keep R6.out hb7)
    have S7 := hide' (S6.out.keep hb7)
    have I7 := hide' (there_keep hb7 I6.out)
    have V7 := hide' (resi_keep V6.out hb7)
    clear hb7 B6 R6 S6 I6 V6
    go_wp2_with fail
    refine (HT.out _ (HRR.out.keep B7.out)).mono ?_
    rintro e w8 ⟨rfl, -, ho8, hb8⟩
    have B8 := hide' (B7.out.trans (hb8.mono B7.out.size))
    have R8 := hide' (resi_keep R7.out hb8)
    have S8 := hide' (S7.out.keep hb8)
    have I8 := hide' (there_keep hb8 I7.out)
    have V8 := hide' (resi_keep V7.out hb8)
    have O8 := hide' ho8.at
    clear hb8 ho8 B7 R7 S7 I7 V7
    go_wp2_with fail
    refine (HE.out _ _ _ _ _ S8.out O8.out).mono ?_
    rintro e w9 ⟨rfl, hb9⟩
    have B9 := hide' (B8.out.trans (hb9.mono B8.out.size))
    have R9 := hide' (resi_keep R8.out hb9)
    have I9 := hide' (there_keep hb9 I8.out)
    have V9 := hide' (resi_keep V8.out hb9)
    clear hb9 B8 R8 S8 I8 V8 O8 HE
    go_wp2_with fail
    refine (HM.out _ _ _ I9.out).mono ?_
    rintro e w10 ⟨rfl, -, he10⟩
    have B10 := hide' (B9.out.trans (he10.b.mono (by have := ZW.out; omega)))
    have R10 := hide' (resi_edit R9.out he10 (.inr (by omega)))
    have V10 := hide' (resi_edit V9.out he10 (.inl (by have := ZN.out; omega)))
    clear he10 B9 R9 I9 V9 HM
    have hy0 : ¬ (1 + 5 * (l.length : Int) < 0) := by omega
    generalize 1 + 5 * (l.length : Int) = y at *
    go_wp2_with fail
    refine (resi_eq V10.out R10.out).mono ?_
    rintro e w11 ⟨rfl, hb11⟩
    have B11 := hide' (B10.out.trans (hb11.mono B10.out.size))
    have R11 := hide' (resi_keep R10.out hb11)
    have V11 := hide' (resi_keep V10.out hb11)
    clear hb11 B10 R10 V10
    go_wp2_with fail
    refine (resi_mk V11.out).mono ?_
    rintro e w12 ⟨⟨m2, rfl, hm20, hmk⟩, he12⟩
    have B12 := hide' (B11.out.trans (he12.b.mono (by have := ZW.out; have := ZN.out; omega)))
    have R12 := hide' (resi_edit R11.out he12 (.inr (by have := ZN.out; omega)))
    have K12 := hide' hmk
    clear hmk he12 B11 R11 V11
    go_wp2_with fail
    refine (mkdi_held K12.out).mono ?_
    rintro e w13 ⟨rfl, hb13⟩
    have B13 := hide' (B12.out.trans (hb13.mono B12.out.size))
    have R13 := hide' (resi_keep R12.out hb13)
    have K13 := hide' (mkdi_keep K12.out hb13)
    clear hb13 B12 R12 K12
    go_wp2_with fail
    refine (HT.out _ (HRR.out.keep B13.out)).mono ?_
    rintro e w14 ⟨rfl, -, ho14, hb14⟩
    have B14 := hide' (B13.out.trans (hb14.mono B13.out.size))
    have R14 := hide' (resi_keep R13.out hb14)
    have K14 := hide' (mkdi_keep K13.out hb14)
    have O14 := hide' ho14.at
    clear hb14 ho14 B13 R13 K13
    go_wp2_with fail
    refine (HGI.out _ _ O14.out).mono ?_
    rintro e w15 ⟨⟨v15, rfl, hr15⟩, hb15⟩
    have B15 := hide' (B14.out.trans (hb15.mono B14.out.size))
    have R15 := hide' (resi_keep R14.out hb15)
    have K15 := hide' (mkdi_keep K14.out hb15)
    have V15 := hide' hr15
    clear hr15 hb15 B14 R14 K14 O14
    go_wp2_with fail
    refine (resi_eq V15.out R15.out).mono ?_
    rintro e w16 ⟨rfl, hb16⟩
    have B16 := hide' (B15.out.trans (hb16.mono B15.out.size))
    have K16 := hide' (mkdi_keep K15.out hb16)
    clear hb16 B15 R15 K15 V15
    go_wp2_with fail
    refine (mkdi_held K16.out).mono ?_
    rintro e w17 ⟨rfl, hb17⟩
    have B17 := hide' (B16.out.trans (hb17.mono B16.out.size))
    clear hb17
    go_wp2_with fail
    go_ret
    exact ⟨rfl, B17.out⟩
end Go.Proofs.Ytmflbibogkebmaa
