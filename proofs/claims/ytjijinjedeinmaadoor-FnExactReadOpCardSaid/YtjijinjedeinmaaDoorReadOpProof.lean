/- Proved: at every string the program's ReadOp answers as the specification's (FnExactReadOp returns true; it says so at once of a string longer than 1048576 bytes), and nothing is changed. Condition: the tables of math/bits and of internal/strconv the two errors of strconv and the program's table of forms that the road reads stand as the program's text lays them; the card ties them to that text. -/
import Derived.Test.YtjijinjedeinmaaDoorCards
import Derived.Test.YtjijinjedeinmaaDoorTie
import Derived.Test.YtjijinjedeinmaaDoorReadOpW
import Derived.Test.YtjijinjedeinmaaDoorFormsOf
import Derived.ProofKit
import Derived.ChangeAlike
import Derived.OpenShut
import Derived.Deep.DeepHandedRow
import Derived.Deep.DeepWitnessRowRef
import Derived.Stop.LaidErr
import Derived.Lib.LaidTab
import Derived.OpenVars
namespace Go.Proofs.YtjijinjedeinmaaDoor.fnReadOp
open Go.ChangeShapes Go.WideShapes Go.ChangeAt Go.RowKit
open Fl

theorem own : ownKnob Tryd.prog.godebug = none := by kernel_rfl
theorem gTab : Tryd.prog.globalNamed "math/bits.deBruijn64tab" = some 2 := by kernel_rfl
theorem gTabType : (Tryd.prog.globals[2]?).map (·.type) = some 139 := by kernel_rfl
theorem cellsTab : Tryd.prog.cellsOf 139 = 64 := by kernel_rfl
theorem cells5 : Tryd.prog.cellsOf 5 = 1 := by kernel_rfl

theorem gPowType : (Tryd.prog.globals[6]?).map (·.type) = some 180 := by kernel_rfl
theorem cellsPow : Tryd.prog.cellsOf 180 = 20 := by kernel_rfl
theorem cellsU : Tryd.prog.cellsOf 71 = 1 := by kernel_rfl

theorem laid_tail {P : Program} {x : String × DataW Unit} {l : List (String × DataW Unit)} {W : World} (h : laidMet P (x :: l) W) : laidMet P l W := by
  obtain ⟨ps, ⟨g, t, cs, fuel, p, q, hg, ht, hvar, hd, hrest, rfl⟩, hn, hr⟩ := h
  exact ⟨q, hrest, (List.nodup_append.1 hn).2.1, fun b off hm => hr b off (by simp [hm])⟩

theorem laid_plain {W : World} (h : laidMetH Tryd.prog Rows.fnExactReadOpRow.laid W) : laidMet Tryd.prog Rows.fnExactReadOpRow.laid W := h

theorem tab_of {W : World} (h : laidMetH Tryd.prog Rows.fnExactReadOpRow.laid W) : Tab W := by
  have h1 : Lib.TabIs Tryd.prog W "math/bits.deBruijn64tab" .u8 tab64 :=
    Lib.tabIs_of_head gTab gTabType Tryd.underlying139 Tryd.underlying5 cells5 cellsTab (laid_tail (laid_plain h))
  intro i hi
  exact h1.cell gTab i hi

theorem pow_of {W : World} (h : laidMetH Tryd.prog Rows.fnExactReadOpRow.laid W) : Lib.TabIs Tryd.prog W "internal/strconv.uint64pow10" .u64 Lib.pow10Tab :=
  Lib.tabIs_of_head gPow gPowType Tryd.underlying180 Tryd.underlying71 cellsU cellsPow (laid_tail (laid_tail (laid_plain h)))

theorem Tab.below {w w' : World} (h : Tab w) (hb : Below w.heap.size w w') : Tab w' := fun i hi =>
  (hb.cell (World.block_lt_of_cell? w _ (h i hi))).trans (h i hi)

theorem star : "*" ++ "errors.errorString" = "*errors.errorString" := by decide
theorem errRow (u : TypeId) (h : Tryd.prog.typeName? 3 u = some "*errors.errorString") : u = 185 :=
  typeName_ptr_named (nm := "errors.errorString") (by rw [star]; kernel_rfl) (by kernel_rfl) (by decide) u (by rw [star]; exact h)
theorem gSyn : Tryd.prog.globalNamed "strconv.ErrSyntax" = some 4 := by kernel_rfl
theorem gSynType : (Tryd.prog.globals[4]?).map (·.type) = some 103 := by kernel_rfl
theorem gRng : Tryd.prog.globalNamed "strconv.ErrRange" = some 5 := by kernel_rfl
theorem gRngType : (Tryd.prog.globals[5]?).map (·.type) = some 103 := by kernel_rfl
theorem cellsErr : Tryd.prog.cellsOf 187 = 1 := by kernel_rfl
theorem cells9 : Tryd.prog.cellsOf 9 = 1 := by kernel_rfl

theorem env_of {W : World} (h : laidMetH Tryd.prog Rows.fnExactReadOpRow.laid W) (hsh : W.ShapedOpen Tryd.prog) : Env W where
  tab := tab_of h
  pow := pow_of h
  len := Tryd.laysM145.s1_3 W hsh
  syn := by
    obtain ⟨a0, s0, hv0, -, -, -⟩ := laid_sentinel (laid_tail (laid_tail (laid_tail (laid_tail (laid_plain h))))) gSyn gSynType Tryd.underlying103 errRow Tryd.underlying185 Tryd.underlying187 rfl rfl Tryd.underlying9 cellsErr cells9
    exact ⟨_, _, by have h0 := World.var?_cell gSyn hv0 0; simpa using h0⟩
  rng := by
    obtain ⟨a0, s0, hv0, -, -, -⟩ := laid_sentinel (laid_tail (laid_tail (laid_tail (laid_plain h)))) gRng gRngType Tryd.underlying103 errRow Tryd.underlying185 Tryd.underlying187 rfl rfl Tryd.underlying9 cellsErr cells9
    exact ⟨_, _, by have h0 := World.var?_cell gRng hv0 0; simpa using h0⟩

theorem laidOut : laidOutB Tryd.prog = true := by kernel_rfl
theorem forms_here {W : World} (h : laidMetH Tryd.prog Rows.fnExactReadOpRow.laid W) : Forms W := forms_of (laid_tail (laid_tail (laid_tail (laid_tail (laid_tail (laid_plain h))))))
def formsV : Array Value := ((List.range 18).flatMap fun k => [.string (formW k), .bool (formV k), .int .i64 (formA k), .int .i64 (formB k)]).toArray

theorem vars_one {H : Type} {enc : TypeId × Value → H} {P : Program} {w : World} {spare : Nat → Bool} {n : String} {gs : List (DataW H)} {ps : List MemPlace} (h : DataW.TrodVars enc P w spare [n] gs ps) : ∃ g, gs = [g] := by
  match gs, h with
  | [g], _ => exact ⟨g, rfl⟩
  | [], h => exact h.elim
  | _ :: _ :: _, ⟨_, _, _, _, _, _, _, _, _, _, h, _⟩ => exact h.elim

def tab32 : List Int := [0, 1, 28, 2, 29, 14, 24, 3, 30, 22, 20, 15, 25, 17, 4, 8, 31, 27, 13, 23, 21, 19, 16, 7, 26, 12, 18, 6, 11, 5, 10, 9]

set_option maxRecDepth 100000 in
theorem contract (H : Type) (enc : TypeId × Value → H) (W : World) (base : Nat) (args : Array Value) (ds gs : List (DataW H)) (before : List MemPlace)
    (hval : ∀ (j : Nat) t v, Tryd.f6.params[j]? = some t → args[j]? = some v → Value.okWide Tryd.prog W .any base t v)
    (hW : DataW.Whole enc Tryd.prog Tryd.f6.params.toList Rows.fnExactReadOpSpec.vars false W args.toList ds gs before) (hL : laidMetH Tryd.prog Rows.fnExactReadOpRow.laid W) (hsh : W.ShapedOpen Tryd.prog) :
    Calls Tryd.prog 6 args W fun e W' => ∃ v, e = .returned v ∧ Rows.fnExactReadOpSpec.post enc Tryd.prog Tryd.f6 false true false false W args v W' := by
  have hW' := hW
  obtain ⟨p, q, hA0, hV, rfl, hfz, hnd⟩ := hW
  have hA : DataW.TrodAll enc Tryd.prog W 0 (fun _ => true) true Tryd.f6.params.toList args.toList ds p := hA0
  rw [Tryd.params6] at hA hval
  obtain ⟨v0, d0, rfl, rfl, h0⟩ := trodAll_one hA
  obtain ⟨g, rfl⟩ := vars_one hV
  obtain ⟨s, rfl, rfl, rfl, ws⟩ := ChangeMaps.open_string Tryd.underlying9 (hval 0 9 v0 rfl rfl) h0
  clear hA0
  refine (law_readop s W (env_of hL hsh) (forms_here hL)).mono fun e W' ⟨he, hb⟩ => ?_
  subst he
  exact ⟨_, rfl, ⟨_, _, _, [], [], _, hW', trodAll_mk1 (shut_bool Tryd.underlying4 _), trodAll_mk1 (ChangeMaps.shut_string Tryd.underlying9 ws), Below.trodVars laidOut hb (by kernel_rfl) hV, hb.frame _, fun h => by cases h⟩⟩

/-- A world for the witness: the settled one with two blocks more, the errors' texts; the variables holding what their initialisers lay. -/
theorem witness (os : Os) {H : Type} (enc : TypeId × Value → H) :
    ∃ (w : World) (tape : Tape) (i : Input), w.os = os ∧ (w.forCall tape i).Shaped Tryd.checked.prog ∧ i.vars = [] ∧ Input.okWide Tryd.checked.prog (w.forCall tape i) .any w.heap.size 6 i ∧
      (OpenSpec.ofChange Rows.fnExactReadOpSpec).preRow enc Tryd.checked.prog Tryd.f6 Rows.fnExactReadOpRow.domain false Rows.fnExactReadOpRow.laid (w.forCall tape i).memory i.args ∧ ({ modest := false } : Assume).holds Tryd.checked.prog (lone (Frame.enter Tryd.checked.prog 6 i.args .normal) [] (w.forCall tape i)) := by
  obtain ⟨w1, hw1⟩ : ∃ w1 : World, w1 = World.holding Tryd.prog os ⟨#[.cells #[.string ⟨#[118, 97, 108, 117, 101, 32, 111, 117, 116, 32, 111, 102, 32, 114, 97, 110, 103, 101]⟩] 187, .cells #[.string ⟨#[105, 110, 118, 97, 108, 105, 100, 32, 115, 121, 110, 116, 97, 120]⟩] 187], #[], []⟩ := ⟨_, rfl⟩
  obtain ⟨w0, hw0⟩ : ∃ w0 : World, w0 = { w1 with heap := w1.heap.mapIdx fun i o => match o with
      | .cells c t frozen => .cells (if i = 2 then (tab64.map (Value.int .u8)).toArray else if i = 7 then (tab32.map (Value.int .u8)).toArray else if i = 6 then (Lib.pow10Tab.map (Value.int .u64)).toArray else if i = 5 then #[.iface 185 (.pointer (some ⟨(World.settled Tryd.prog os).heap.size, 0, none⟩))] else if i = 4 then #[.iface 185 (.pointer (some ⟨(World.settled Tryd.prog os).heap.size + 1, 0, none⟩))] else if i = 0 then formsV else c) t frozen
      | o => o } := ⟨_, rfl⟩
  subst hw1
  have hx : ∃ places, DataW.whole enc Tryd.prog (w0.forCall (fun _ _ => 0) ⟨#[], #[.string ⟨#[]⟩], []⟩).memory Tryd.f6.params.toList Rows.fnExactReadOpSpec.vars false #[Value.string ⟨#[]⟩].toList 8 = some ([.lit (.string [])], [Rows.laid_loop_example_g00696_impl_opForms], places) := ⟨MemPlace.row ⟨0, 0, none⟩ 72, by subst hw0; kernel_rfl⟩
  obtain ⟨places, hx⟩ := hx
  have hl : laidMet Tryd.prog Rows.fnExactReadOpRow.laid (w0.forCall (fun _ _ => 0) ⟨#[], #[.string ⟨#[]⟩], []⟩).memory := laidMet_of_run' 70 (by subst hw0; kernel_rfl) (by subst hw0; kernel_rfl)
  exact witness_row_atRef (enc := enc) (C := Tryd.checked) false w0 #[.string ⟨#[]⟩] (by subst hw0; rfl) (by subst hw0; kernel_rfl) (by subst hw0; kernel_rfl) (by subst hw0; kernel_rfl)
      (OpenSpec.preRow_of_cond 8 hx (by kernel_rfl) (fun k hk => by cases hk) (by subst hw0; kernel_rfl) hl)

set_option maxRecDepth 100000 in
theorem lifted (os : Os) (started : os.Started) (H : Type) (enc : TypeId × Value → H) (F : Stop.Interp) :
    ReturnsInHanded {} Tryd.checked os 6 .any ((OpenSpec.ofChange Rows.fnExactReadOpSpec).preRow enc Tryd.prog Tryd.f6 Rows.fnExactReadOpRow.domain false Rows.fnExactReadOpRow.laid) (((OpenSpec.ofChange Rows.fnExactReadOpSpec).at F).post enc Tryd.prog Tryd.f6 false true false false) := by
  refine returnsInHanded_of_row (C := Tryd.checked) (s := OpenSpec.ofChange Rows.fnExactReadOpSpec) own started (by kernel_rfl) Tryd.func6 (witness os enc) ?_
  intro W base args ds gs before hval hW _ _ _ hL hsh _
  exact contract H enc W base args ds gs before hval hW hL hsh

theorem said : Rows.FnExactReadOpSaid :=
  OpenClaim.holds_of_cond 6 Tryd.f6 rfl rfl rfl rfl rfl rfl rfl ⟨rfl, rfl, rfl, rfl, rfl⟩ rfl rfl rfl rfl rfl (by kernel_rfl) Tryd.func6 (by kernel_rfl)
    (of_decide_eq_true (by kernel_rfl)) (by unfold Func.isWrapper; rw [if_neg (by decide +kernel)]; exact ⟨rfl, rfl⟩)
    (fun os started H enc _ F => by rw [OpenClaim.pre_eq_preRow]; exact lifted os started H enc F)

theorem plain (f : FuncId) (fn : Func) (hf : Tryd.pinned.checked.prog.funcNamed "loop.example/g00696/laws.FnExactReadOp" = some f) (hfn : Tryd.pinned.checked.prog.funcs[f]? = some fn) :
    true = Tryd.pinned.checked.prog.looks [] ∧ ∀ (j : Nat) t, fn.params[j]? = some t → Tryd.pinned.checked.prog.wantsStandIn t = false := by
  obtain rfl : f = 6 := Option.some.inj ((show Tryd.prog.funcNamed "loop.example/g00696/laws.FnExactReadOp" = some 6 by kernel_rfl).symm.trans hf) |>.symm
  obtain rfl : fn = Tryd.f6 := (Option.some.inj (Tryd.func6.symm.trans hfn)).symm
  refine ⟨by kernel_rfl, fun j t ht => ?_⟩
  rw [Tryd.params6] at ht
  obtain rfl : t = 9 := by simpa using Array.mem_of_getElem? ht
  exact (show Tryd.prog.wantsStandIn 9 = false by kernel_rfl)

end Go.Proofs.YtjijinjedeinmaaDoor.fnReadOp
namespace Go.Proofs.YtjijinjedeinmaaDoor
theorem fnExactReadOp_card : Rows.FnExactReadOpCardSaid :=
  Claim7.holds_tied_plain_at .later [] _ _ _ _ fnReadOp.said (fun _ h => by cases h) (by kernel_rfl) (fun _ h => by cases h) fnExactReadOp_row_tie rfl ⟨rfl, rfl⟩ (by kernel_rfl) rfl fnReadOp.plain (by kernel_rfl)
end Go.Proofs.YtjijinjedeinmaaDoor
