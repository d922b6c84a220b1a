/- ProgText: both sides at a program that is not good; the specification's at a good one, over l2Text's contract. -/
import Derived.Test.YtdifamjkbagfcaaDoorProgI
namespace Go.Proofs.YtdifamjkbagfcaaDoor
open Go.RowKit
open Rd Fl

set_option maxRecDepth 20000 in
set_option maxHeartbeats 1000000 in
theorem iprog_no (cl lk cd : Int) (R : Option Addr) (rs : List (List OpD)) (cap : Nat)
    (hG : ∀ R cap w, RoutsAt w R rs → Forms w → Calls Tryd.prog 37 #[.agg #[.int .i64 cl, .int .i64 lk, .int .i64 cd, .slice R rs.length cap]] w fun e w' => e = .returned (.bool false) ∧ Below w.heap.size w w')
    (w : World) (hR : RoutsAt w R rs) (hF : Forms w) :
    Calls Tryd.prog 11 #[.agg #[.int .i64 cl, .int .i64 lk, .int .i64 cd, .slice R rs.length cap]] w fun e w' => e = .returned (.tuple #[.string ⟨#[]⟩, .bool false]) ∧ Below w.heap.size w w' := by
  have HR := hide' hR
  have HF := hide' hF
  have HG := hide' hG
  clear hR hF hG
  go_enter Tryd.func11, Tryd.ntmps11
  go_wp2_with fail
  refine (HG.out _ _ _ (HR.out.keep ((Below.refl _ w).up _)) (HF.out.below ((Below.refl _ w).up _))).mono ?_
  rintro e w1 ⟨rfl, hb1⟩
  have HW := hide' (((Below.refl _ w).up _).trans (hb1.mono (by simp)))
  clear hb1
  go_wp2_with fail
  go_ret2
  exact ⟨rfl, HW.out⟩

set_option maxRecDepth 20000 in
set_option maxHeartbeats 1000000 in
theorem sprog_no (cl lk cd : Int) (R : Option Addr) (rs : List (List OpD)) (cap : Nat)
    (hG : ∀ R cap w, RoutsAt w R rs → Calls Tryd.prog 34 #[.agg #[.int .i64 cl, .int .i64 lk, .int .i64 cd, .slice R rs.length cap]] w fun e w' => e = .returned (.bool false) ∧ Below w.heap.size w w')
    (w : World) (hR : RoutsAt w R rs) :
    Calls Tryd.prog 9 #[.agg #[.int .i64 cl, .int .i64 lk, .int .i64 cd, .slice R rs.length cap]] w fun e w' => e = .returned (.tuple #[.string ⟨#[]⟩, .bool false]) ∧ Below w.heap.size w w' := by
  have HR := hide' hR
  have HG := hide' hG
  clear hR hG
  go_enter Tryd.func9, Tryd.ntmps9
  go_wp2_with fail
  refine (HG.out _ _ _ (HR.out.keep ((Below.refl _ w).up _))).mono ?_
  rintro e w1 ⟨rfl, hb1⟩
  have HW := hide' (((Below.refl _ w).up _).trans (hb1.mono (by simp)))
  clear hb1
  go_wp2_with fail
  go_ret2
  exact ⟨rfl, HW.out⟩

set_option maxRecDepth 20000 in
set_option maxHeartbeats 1000000 in
theorem sprog_yes (cl lk cd : Int) (R : Option Addr) (rs : List (List OpD)) (cap : Nat) (X : ByteArray)
    (hG : ∀ R cap w, RoutsAt w R rs → Calls Tryd.prog 34 #[.agg #[.int .i64 cl, .int .i64 lk, .int .i64 cd, .slice R rs.length cap]] w fun e w' => e = .returned (.bool true) ∧ Below w.heap.size w w')
    (hT : ∀ R cap w, RoutsAt w R rs → Calls Tryd.prog 35 #[.agg #[.int .i64 cl, .int .i64 lk, .int .i64 cd, .slice R rs.length cap]] w fun e w' => e = .returned (.string X) ∧ Below w.heap.size w w')
    (w : World) (hR : RoutsAt w R rs) :
    Calls Tryd.prog 9 #[.agg #[.int .i64 cl, .int .i64 lk, .int .i64 cd, .slice R rs.length cap]] w fun e w' => e = .returned (.tuple #[.string X, .bool true]) ∧ Below w.heap.size w w' := by
  have HR := hide' hR
  have HG := hide' hG
  have HT := hide' hT
  clear hR hG hT
  go_enter Tryd.func9, Tryd.ntmps9
  go_wp2_with fail
  refine (HG.out _ _ _ (HR.out.keep ((Below.refl _ w).up _))).mono ?_
  rintro e w1 ⟨rfl, hb1⟩
  have HW := hide' (((Below.refl _ w).up _).trans (hb1.mono (by simp)))
  obtain ⟨p0, p1, p2, p3⟩ := (pbox_new w cl lk cd R rs.length cap 30).keep hb1
  clear hb1
  go_wp2_with fail
  refine (HT.out _ _ _ (HR.out.keep HW.out)).mono ?_
  rintro e w2 ⟨rfl, hb2⟩
  have HW2 := hide' (HW.out.trans (hb2.mono HW.out.size))
  clear hb2
  go_wp2_with fail
  go_ret2
  exact ⟨rfl, HW2.out⟩

end Go.Proofs.YtdifamjkbagfcaaDoor
