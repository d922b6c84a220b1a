/- Proved: at every two states the SameState of the code answers as that of the specification and leaves its arguments alone (FnExactSameState returns true; it says so at once of arguments with more than 1048576 parts), and nothing is changed. No condition. -/
import Derived.Test.YtdifamjkbagfcabSameStateW
import Derived.Test.YtdifamjkbagfcabOpenSt
import Derived.ProofKit
import Derived.ChangeAlike
import Derived.OpenShut
import Derived.ChangeOld
import Derived.Below
namespace Go.Proofs.Ytdifamjkbagfcab
open Go.ChangeShapes Go.WideShapes Go.ChangeAt Go.RowKit
open Fl

theorem Try.own : ownKnob Try.prog.godebug = none := by kernel_rfl
theorem laidOut : laidOutB Try.prog = true := by kernel_rfl

set_option maxRecDepth 100000 in
theorem fnExactSameState_lifted (os : Os) (started : os.Started) (H : Type) (enc : TypeId × Value → H) :
    ReturnsInHanded {} Try.checked os 3 .any (Rows.fnExactSameStateSpec.pre6 enc Try.prog Try.f3 Rows.fnExactSameStateRow.domain false) (Rows.fnExactSameStateSpec.post enc Try.prog Try.f3 false true false false) := by
  refine returnsInHanded_of_change (C := Try.checked) Try.own started (by kernel_rfl) Try.func3
    (ChangeSpec.witness6 (enc := enc) (C := Try.checked) false ⟨#[], #[.agg #[.slice none 0 0, .slice none 0 0, .slice none 0 0, .int .i64 0], .agg #[.slice none 0 0, .slice none 0 0, .slice none 0 0, .int .i64 0]], []⟩ 8 (by kernel_rfl) (by kernel_rfl) (by kernel_rfl) (by kernel_rfl)) ?_
  intro W base args ds gs before hval0 hW hcnd _
  have hval : ∀ (j : Nat) t v, Try.f3.params[j]? = some t → args[j]? = some v → Value.okWide Try.prog W .any base t v := hval0
  have hW' := hW
  obtain ⟨p, q, hA0, hV, rfl, hfz, hnd⟩ := hW
  have hA : DataW.TrodAll enc Try.prog W 0 (fun _ => true) true Try.f3.params.toList args.toList ds p := hA0
  rw [Try.params3] at hA hval
  obtain ⟨v0, v1, d0, d1, p0, p1, rfl, rfl, rfl, h0, h1⟩ := trodAll_two hA
  obtain ⟨rfl, rfl⟩ := trodVars_none hV
  obtain ⟨cs, rfl, hcs⟩ := okWide_struct Try.underlying26 (hval 0 26 v0 rfl rfl)
  obtain ⟨cs2, rfl, hcs2⟩ := okWide_struct Try.underlying26 (hval 1 26 v1 rfl rfl)
  have lt0 : ∀ x ∈ p0, x.block < W.heap.size := by obtain ⟨m, hm⟩ := h0; exact DataW.trod_lt m _ _ _ hm
  have lt1 : ∀ x ∈ p1, x.block < W.heap.size := by obtain ⟨m, hm⟩ := h1; exact DataW.trod_lt m _ _ _ hm
  obtain ⟨fuel, hf⟩ := h0
  obtain ⟨fuel1, hf1⟩ := h1
  obtain ⟨s, T, C, O, k1, k2, k3, e, hS, hfit, hnum⟩ := state_in hf
  have ecs : cs = #[.slice T s.ts.length k1, .slice C s.cl.length k2, .slice O s.ow.length k3, .int .i64 s.ft] := by
    have : cs.toList = [.slice T s.ts.length k1, .slice C s.cl.length k2, .slice O s.ow.length k3, .int .i64 s.ft] := e
    rw [← Array.toArray_toList (xs := cs), this]
  subst ecs
  obtain ⟨u, T', C', O', j1, j2, j3, e2, hS2, hfit2, hnum2⟩ := state_in hf1
  have ecs2 : cs2 = #[.slice T' u.ts.length j1, .slice C' u.cl.length j2, .slice O' u.ow.length j3, .int .i64 u.ft] := by
    have : cs2.toList = [.slice T' u.ts.length j1, .slice C' u.cl.length j2, .slice O' u.ow.length j3, .int .i64 u.ft] := e2
    rw [← Array.toArray_toList (xs := cs2), this]
  subst ecs2
  clear hA0 hval0
  refine (law_samestate s u T C O T' C' O' k1 k2 k3 j1 j2 j3 hfit hfit2 hnum hnum2 W hS hS2).mono fun e W' ⟨he, bel⟩ => ?_
  subst he
  exact ⟨_, rfl, _, _, _, [], _, [], hW', trodAll_mk1 (shut_bool Try.underlying4 _), trodAll_mk2 (Below.trod laidOut (by kernel_rfl) (of_decide_eq_true (by kernel_rfl)) ⟨fuel, hf⟩ bel lt0) (Below.trod laidOut (by kernel_rfl) (of_decide_eq_true (by kernel_rfl)) ⟨fuel1, hf1⟩ bel lt1), rfl, bel.frame _, fun h => by cases h⟩

theorem fnExactSameState_holds : Rows.FnExactSameStateSaid :=
  OpenClaim.holds_of_wide 3 Try.f3 rfl rfl rfl rfl rfl rfl rfl ⟨rfl, rfl, rfl, rfl, rfl⟩ rfl rfl rfl rfl rfl (by kernel_rfl) Try.func3 (by kernel_rfl)
    (of_decide_eq_true (by kernel_rfl)) (by unfold Func.isWrapper; rw [if_neg (by decide +kernel)]; exact ⟨rfl, rfl⟩)
    (fun os started H enc _ => fnExactSameState_lifted os started H enc)
end Go.Proofs.Ytdifamjkbagfcab
