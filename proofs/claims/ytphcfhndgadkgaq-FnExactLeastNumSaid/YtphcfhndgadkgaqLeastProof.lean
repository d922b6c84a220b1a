/- Proved: at every two float64 the program's LeastNum answers as the specification's (FnExactLeastNum returns true), and nothing is changed. No condition. -/
import Derived.Test.YtphcfhndgadkgaqLeast
import Derived.ProofKit
import Derived.ChangeAlike
namespace Go.Proofs.Ytphcfhndgadkgaq
open Go.ChangeShapes Go.WideShapes Go.ChangeAt Go.RowKit
open Fl

theorem fnExactLeastNum_own : ownKnob Try.prog.godebug = none := by kernel_rfl

set_option maxHeartbeats 800000 in
theorem fnExactLeastNum_any (s : Bool) (r : Nat) (hr : r < 9223372036854775808) (t : Bool) (q : Nat) (hq : q < 9223372036854775808) (w : World) :
    Calls Try.prog 3 #[.float .f64 (wd s r), .float .f64 (wd t q)] w fun e w' => e = .returned (.bool true) ∧ w' = w := by
  obtain ⟨u, p, hp, hl⟩ := leastW_wd s t r q hr hq
  have HL := hide hl
  clear hl
  go_enter Try.func3, Try.ntmps3
  go_wp2_with (first | (go_at_call 6; refine (sleast_any s t r q hr hq _).mono ?_; rintro e w' ⟨rfl, rfl⟩; rw [HL.out]) | (go_at_call 7; refine (ileast_any s t r q hr hq _).mono ?_; rintro e w' ⟨rfl, rfl⟩; rw [HL.out]) | (go_at_call 8; refine (samefl_any u u p p hp hp (sameB_refl u p) _).mono ?_; rintro e w' ⟨rfl, rfl⟩))
  go_ret
  exact ⟨rfl, rfl⟩

theorem fnExactLeastNum_bits {b : Nat} (h : (Lit.float .f64 b).wf = true) : b < 18446744073709551616 := by
  simpa [Lit.wf] using h
theorem fnExactLeastNum_int {b : Int} (h : (Lit.int .i64 b).wf = true) : -9223372036854775808 ≤ b ∧ b ≤ 9223372036854775807 := by
  have h1 : IntKind.i64.min = -9223372036854775808 := rfl
  have h2 : IntKind.i64.max = 9223372036854775807 := rfl
  simpa [Lit.wf, h1, h2] using h

set_option maxRecDepth 100000 in
theorem fnExactLeastNum_lifted (os : Os) (started : os.Started) (H : Type) (enc : TypeId × Value → H) :
    ReturnsInHanded {} Try.checked os 3 .any (Rows.fnExactLeastNumSpec.pre6 enc Try.prog Try.f3 Rows.fnExactLeastNumRow.domain false) (Rows.fnExactLeastNumSpec.post enc Try.prog Try.f3 false true false false) := by
  refine returnsInHanded_of_change (C := Try.checked) fnExactLeastNum_own started (by kernel_rfl) Try.func3
    (ChangeSpec.witness6 (enc := enc) (C := Try.checked) false ⟨#[], #[.float .f64 0, .float .f64 0], []⟩ 8 (by kernel_rfl) (by kernel_rfl) (by kernel_rfl) (by kernel_rfl)) ?_
  intro W base args ds gs before hval0 hW hcnd _
  have hval : ∀ (j : Nat) t v, Try.f3.params[j]? = some t → args[j]? = some v → Value.okWide Try.prog W .any base t v := hval0
  have hW' := hW
  obtain ⟨p, q, hA0, hV, rfl, hfz, hnd⟩ := hW
  have hA : DataW.TrodAll enc Try.prog W 0 (fun _ => true) true Try.f3.params.toList args.toList ds p := hA0
  rw [Try.params3] at hA hval
  obtain ⟨v0, v1, d0, d1, p0, p1, rfl, rfl, rfl, h0, h1⟩ := trodAll_two hA
  obtain ⟨rfl, rfl⟩ := trodVars_none hV
  obtain ⟨a0, rfl, rfl, rfl, wa0⟩ := open_float Try.underlying22 (hval 0 22 v0 rfl rfl) h0
  obtain ⟨a1, rfl, rfl, rfl, wa1⟩ := open_float Try.underlying22 (hval 1 22 v1 rfl rfl) h1
  clear hA0 hval0
  simp only [List.append_nil] at hW'
  obtain ⟨s0, r0, hr0, e0⟩ := exists_wd a0 (fnExactLeastNum_bits wa0)
  subst e0
  obtain ⟨s1, r1, hr1, e1⟩ := exists_wd a1 (fnExactLeastNum_bits wa1)
  subst e1
  refine (fnExactLeastNum_any s0 r0 hr0 s1 r1 hr1 W).mono fun e W' ⟨he, hw⟩ => ?_
  subst he; subst hw
  exact ⟨_, rfl, post_of_same (pa := []) (pv := []) hW' (fun _ _ _ => trodAll_mk1 (shut_bool Try.underlying4 _)) (fun sp _ => trodAll_mk2 (shut_float Try.underlying22 wa0) (shut_float Try.underlying22 wa1)) (fun _ _ => rfl) rfl
    (World.keptBut_refl _ _) (fun _ => rfl) (ok_one (by kernel_rfl) rfl (okWide_bool_mk Try.underlying4 _))⟩

theorem fnExactLeastNum_holds : Rows.FnExactLeastNumSaid :=
  OpenClaim.holds_of_wide 3 Try.f3 rfl rfl rfl rfl rfl rfl rfl ⟨rfl, rfl, rfl, rfl, rfl⟩ rfl rfl rfl rfl rfl (by kernel_rfl) Try.func3 (by kernel_rfl)
    (of_decide_eq_true (by kernel_rfl)) (by unfold Func.isWrapper; rw [if_neg (by decide +kernel)]; exact ⟨rfl, rfl⟩)
    (fun os started H enc _ => fnExactLeastNum_lifted os started H enc)
end Go.Proofs.Ytphcfhndgadkgaq
