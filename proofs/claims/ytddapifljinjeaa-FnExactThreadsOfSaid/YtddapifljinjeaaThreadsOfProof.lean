/- Proved: at every run the ThreadsOf of the code answers as that of the specification, leaves its argument alone, and its answer owns its memory (FnExactThreadsOf returns true; it says so at once of an argument with more than 1048576 parts), and nothing is changed. No condition. -/
import Derived.Test.YtddapifljinjeaaThreadsOfW
import Derived.Test.YtddapifljinjeaaOpenRun
import Derived.ProofKit
import Derived.ChangeAlike
import Derived.OpenShut
import Derived.ChangeOld
import Derived.Below
namespace Go.Proofs.Ytddapifljinjeaa
open Go.ChangeShapes Go.WideShapes Go.ChangeAt Go.RowKit
open Fl

theorem Try.own : ownKnob Try.prog.godebug = none := by kernel_rfl
theorem laidOut : laidOutB Try.prog = true := by kernel_rfl

set_option maxRecDepth 100000 in
theorem fnExactThreadsOf_lifted (os : Os) (started : os.Started) (H : Type) (enc : TypeId × Value → H) :
    ReturnsInHanded {} Try.checked os 3 .any (Rows.fnExactThreadsOfSpec.pre6 enc Try.prog Try.f3 Rows.fnExactThreadsOfRow.domain false) (Rows.fnExactThreadsOfSpec.post enc Try.prog Try.f3 false true false false) := by
  refine returnsInHanded_of_change (C := Try.checked) Try.own started (by kernel_rfl) Try.func3
    (ChangeSpec.witness6 (enc := enc) (C := Try.checked) false ⟨#[], #[.agg #[.int .i64 0, .slice none 0 0, .slice none 0 0, .slice none 0 0, .slice none 0 0, .slice none 0 0, .int .i64 0]], []⟩ 8 (by kernel_rfl) (by kernel_rfl) (by kernel_rfl) (by kernel_rfl)) ?_
  intro W base args ds gs before hval0 hW hcnd _
  have hval : ∀ (j : Nat) t v, Try.f3.params[j]? = some t → args[j]? = some v → Value.okWide Try.prog W .any base t v := hval0
  have hW' := hW
  obtain ⟨p, q, hA0, hV, rfl, hfz, hnd⟩ := hW
  have hA : DataW.TrodAll enc Try.prog W 0 (fun _ => true) true Try.f3.params.toList args.toList ds p := hA0
  rw [Try.params3] at hA hval
  obtain ⟨v0, d0, rfl, rfl, h0⟩ := trodAll_one hA
  obtain ⟨rfl, rfl⟩ := trodVars_none hV
  obtain ⟨cs, rfl, hcs⟩ := okWide_struct Try.underlying29 (hval 0 29 v0 rfl rfl)
  have lt0 : ∀ x ∈ p, x.block < W.heap.size := by obtain ⟨m, hm⟩ := h0; exact DataW.trod_lt m _ _ _ hm
  obtain ⟨fuel, hf⟩ := h0
  obtain ⟨r, E, P, T, C, O, k4, k5, k1, k2, k3, e, hS, hfit, hnum⟩ := run_in hf
  have ecs : cs = #[.int .i64 r.cd, .slice E r.tr.length k4, .slice P r.pk.length k5, .slice T r.en.ts.length k1, .slice C r.en.cl.length k2, .slice O r.en.ow.length k3, .int .i64 r.en.ft] := by
    have : cs.toList = [.int .i64 r.cd, .slice E r.tr.length k4, .slice P r.pk.length k5, .slice T r.en.ts.length k1, .slice C r.en.cl.length k2, .slice O r.en.ow.length k3, .int .i64 r.en.ft] := e
    rw [← Array.toArray_toList (xs := cs), this]
  subst ecs
  clear hA0 hval0
  refine (law_threadsof r E P T C O k4 k5 k1 k2 k3 hfit hnum W hS).mono fun e W' ⟨he, bel⟩ => ?_
  subst he
  exact ⟨_, rfl, _, _, _, [], _, [], hW', trodAll_mk1 (shut_bool Try.underlying4 _), trodAll_mk1 (Below.trod laidOut (by kernel_rfl) (of_decide_eq_true (by kernel_rfl)) ⟨fuel, hf⟩ bel lt0), rfl, bel.frame _, fun h => by cases h⟩

theorem fnExactThreadsOf_holds : Rows.FnExactThreadsOfSaid :=
  OpenClaim.holds_of_wide 3 Try.f3 rfl rfl rfl rfl rfl rfl rfl ⟨rfl, rfl, rfl, rfl, rfl⟩ rfl rfl rfl rfl rfl (by kernel_rfl) Try.func3 (by kernel_rfl)
    (of_decide_eq_true (by kernel_rfl)) (by unfold Func.isWrapper; rw [if_neg (by decide +kernel)]; exact ⟨rfl, rfl⟩)
    (fun os started H enc _ => fnExactThreadsOf_lifted os started H enc)
end Go.Proofs.Ytddapifljinjeaa
