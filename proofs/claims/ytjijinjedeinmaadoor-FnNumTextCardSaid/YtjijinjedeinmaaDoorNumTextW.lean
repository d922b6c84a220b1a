/- The walk of FnNumText. -/
import Derived.Test.YtjijinjedeinmaaDoorDrawT
import Derived.Test.YtjijinjedeinmaaDoorNumbersW
namespace Go.Proofs.YtjijinjedeinmaaDoor
open Go.RowKit
open Rd Fl

theorem Env.under {w w' : World} (h : Env w) (hb : Below w.heap.size w w') : Env w' := h.below hb

set_option maxRecDepth 20000 in
set_option maxHeartbeats 4000000 in
theorem numtext_any (a b : Option Addr) (la ca lb cb : Nat) (w : World) (hs1 : la ≤ 1048576 → Src w w.heap.size a la) (hs2 : lb ≤ 1048576 → Src w w.heap.size b lb) (hE : Env w) :
    Calls Tryd.prog 3 #[.slice a la ca, .slice b lb cb] w fun e w' => e = .returned (.bool true) ∧ Below w.heap.size w w' := by
  have H1 := hidec hs1
  have H2 := hidec hs2
  have HE := hidec hE
  clear hs1 hs2 hE
  go_enter Tryd.func3, Tryd.ntmps3
  go_wp2_with fail
  refine (big_any _ _ _ _ _ _ _).mono ?_
  rintro e w' ⟨⟨v, rfl, hv⟩, rfl⟩
  cases v with
  | true =>
    go_wp2_with fail
    go_ret
    exact ⟨rfl, Below.refl _ _⟩
  | false =>
    have HL := hidec (hv rfl)
    clear hv
    go_wp2_with fail
    refine (dtext_any a la ca _ (H1.out HL.out.1)).mono ?_
    rintro e w1 ⟨⟨s, r, hr, rfl⟩, hb1⟩
    obtain ⟨T, u, p, hT, hST, hIT, hAT, hsame⟩ := text_of s r hr
    have hTT : (T.toList != T.toList) = false := by simp
    have HB1 := hidec hb1
    have HS := hidec hST
    have HI := hidec hIT
    have HA := hidec hAT
    have HR := hidec hr
    have HW := hidec (show sameB u p s r = true from hsame)
    clear hb1 hST hIT hAT hT hr hsame
    go_wp2_with fail
    refine (HI.out _ (HE.out.under HB1.out)).mono ?_
    rintro e w2 ⟨rfl, hb2⟩
    have HB2 := hidec (HB1.out.trans (hb2.mono HB1.out.size))
    clear hb2
    go_wp2_with fail
    refine (HA.out.2.2 _ (HE.out.under HB2.out)).mono ?_
    rintro e w3 ⟨rfl, hb3⟩
    have HB3 := hidec (HB2.out.trans (hb3.mono HB2.out.size))
    clear hb3
    go_wp2_with fail
    refine (HS.out _).mono ?_
    rintro e w4 ⟨rfl, hb4⟩
    have HB4 := hidec (HB3.out.trans (hb4.mono HB3.out.size))
    clear hb4
    go_wp2_with fail
    refine (samenum_any u s p r HA.out.1 HR.out _).mono ?_
    rintro e w' ⟨rfl, rfl⟩
    rw [HW.out]
    go_wp2_with fail
    refine (dread_any b lb cb _ ((H2.out HL.out.2).grow HB4.out)).mono ?_
    rintro e w5 ⟨⟨x, rfl, hx⟩, hb5⟩
    obtain ⟨u2, p2, o2, hA2, hS2⟩ := agree_full x (by omega)
    have HB5 := hidec (HB4.out.trans (hb5.mono HB4.out.size))
    have HA2 := hidec hA2
    have HS2 := hidec hS2
    clear hb5 hx hA2 hS2
    go_wp2_with fail
    refine (HA2.out.2.2 _ (HE.out.under HB5.out)).mono ?_
    rintro e w6 ⟨rfl, hb6⟩
    have HB6 := hidec (HB5.out.trans (hb6.mono HB5.out.size))
    clear hb6
    go_wp2_with fail
    refine (HA2.out.2.1 _).mono ?_
    rintro e w7 ⟨⟨t3, r3, hr3, rfl, hs3⟩, n, rfl⟩
    have HR3 := hidec hr3
    have HS3 := hidec hs3
    have HB7 := hidec (below_drewN HB6.out n)
    clear hr3 hs3
    cases o2 with
    | false =>
      go_wp2_with fail
      refine (samenum_any u2 t3 p2 r3 HA2.out.1 HR3.out _).mono ?_
      rintro e w' ⟨rfl, rfl⟩
      rw [HS3.out]
      go_wp2_with fail
      go_ret
      exact ⟨rfl, HB7.out⟩
    | true =>
      have hxx : (x.toList == x.toList) = true := by simp
      have HQ := hidec (HS2.out rfl)
      clear HS2
      go_wp2_with fail
      refine (samenum_any u2 t3 p2 r3 HA2.out.1 HR3.out _).mono ?_
      rintro e w' ⟨rfl, rfl⟩
      rw [HS3.out]
      go_wp2_with fail
      refine (HQ.out _ (HE.out.under HB7.out)).mono ?_
      rintro e w8 ⟨rfl, hb8⟩
      have HB8 := hidec (HB7.out.trans (hb8.mono HB7.out.size))
      clear hb8
      go_wp2_with fail
      go_ret
      exact ⟨rfl, HB8.out⟩
end Go.Proofs.YtjijinjedeinmaaDoor
