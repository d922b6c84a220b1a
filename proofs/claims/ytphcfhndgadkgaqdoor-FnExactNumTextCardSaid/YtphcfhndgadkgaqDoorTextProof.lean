/- Proved: at every float64 the program's NumText answers as the specification's (FnExactNumText returns true), and nothing is changed. Condition: the tables of math/bits and of internal/strconv that the road reads stand as the program's text lays them; the card ties them to that text. -/
import Derived.Test.YtphcfhndgadkgaqDoorCards
import Derived.Test.YtphcfhndgadkgaqDoorTie
import Derived.Test.YtphcfhndgadkgaqDoorText
import Derived.ProofKit
import Derived.ChangeAlike
import Derived.OpenShut
import Derived.Deep.DeepHandedRow
import Derived.Lib.LaidTab
namespace Go.Proofs.YtphcfhndgadkgaqDoor.fnText
open Go.ChangeShapes Go.WideShapes Go.ChangeAt Go.RowKit
open Fl

theorem own : ownKnob Tryd.prog.godebug = none := by kernel_rfl
theorem gTab : Tryd.prog.globalNamed "math/bits.deBruijn64tab" = some 1 := by kernel_rfl
theorem gTabType : (Tryd.prog.globals[1]?).map (·.type) = some 47 := by kernel_rfl
theorem cellsTab : Tryd.prog.cellsOf 47 = 64 := by kernel_rfl
theorem cells5 : Tryd.prog.cellsOf 5 = 1 := by kernel_rfl

theorem gPowType : (Tryd.prog.globals[2]?).map (·.type) = some 77 := by kernel_rfl
theorem cellsPow : Tryd.prog.cellsOf 77 = 20 := by kernel_rfl
theorem cellsU : Tryd.prog.cellsOf 37 = 1 := by kernel_rfl

theorem laid_tail {P : Program} {x : String × DataW Unit} {l : List (String × DataW Unit)} {W : World} (h : laidMet P (x :: l) W) : laidMet P l W := by
  obtain ⟨ps, ⟨g, t, cs, fuel, p, q, hg, ht, hvar, hd, hrest, rfl⟩, hn, hr⟩ := h
  exact ⟨q, hrest, (List.nodup_append.1 hn).2.1, fun b off hm => hr b off (by simp [hm])⟩

theorem laid_plain {W : World} (h : laidMetH Tryd.prog Rows.fnExactNumTextRow.laid W) : laidMet Tryd.prog Rows.fnExactNumTextRow.laid W := h

theorem tab_of {W : World} (h : laidMetH Tryd.prog Rows.fnExactNumTextRow.laid W) : Tab W := by
  have h1 : Lib.TabIs Tryd.prog W "math/bits.deBruijn64tab" .u8 tab64 :=
    Lib.tabIs_of_head gTab gTabType Tryd.underlying47 Tryd.underlying5 cells5 cellsTab (laid_tail (laid_plain h))
  intro i hi
  exact h1.cell gTab i hi

theorem pow_of {W : World} (h : laidMetH Tryd.prog Rows.fnExactNumTextRow.laid W) : Lib.TabIs Tryd.prog W "internal/strconv.uint64pow10" .u64 Lib.pow10Tab :=
  Lib.tabIs_of_head gPow gPowType Tryd.underlying77 Tryd.underlying37 cellsU cellsPow (laid_tail (laid_tail (laid_plain h)))

theorem Tab.below {w w' : World} (h : Tab w) (hb : Below w.heap.size w w') : Tab w' := fun i hi =>
  (hb.cell (World.block_lt_of_cell? w _ (h i hi))).trans (h i hi)

set_option maxHeartbeats 800000 in
theorem law_any (s : Bool) (r : Nat) (hr : r < 9223372036854775808) (w : World) (hT : Tab w) (hP : Lib.TabIs Tryd.prog w "internal/strconv.uint64pow10" .u64 Lib.pow10Tab) :
    Calls Tryd.prog 4 #[.float .f64 (wd s r)] w fun e w' => e = .returned (.bool true) ∧ Below w.heap.size w w' := by
  have HT := hide hT
  have HP := hide hP
  clear hT hP
  by_cases h : r = 0 ∨ 9218868437227405312 ≤ r
  · have HH := hide h
    clear h
    go_enter Tryd.func4, Tryd.ntmps4
    go_wp2_with (first | (go_at_call 8; refine (stext_edge s r hr HH.out _).mono ?_; rintro e w1 ⟨rfl, hb1⟩) | (go_at_call 9; refine (itext_edge s r hr HH.out _).mono ?_; rintro e w2 ⟨rfl, hb2⟩))
    go_ret
    exact ⟨rfl, hb1.trans (hb2.mono hb1.size)⟩
  · have h0 : 0 < r := by omega
    have h1 : r < 9218868437227405312 := by omega
    have HR := hide h1
    clear h h1
    go_enter Tryd.func4, Tryd.ntmps4
    go_wp2_with (first | (go_at_call 8; refine (stext_num s r h0 HR.out _).mono ?_; rintro e w1 ⟨⟨q, x, rfl, hx⟩, hb1⟩; have HX := hide hx; clear hx) | (go_at_call 9; refine (itext_num s r h0 HR.out _ (Tab.below HT.out hb1) (tab_below gPow HP.out hb1)).mono ?_; rintro e w2 ⟨⟨q2, x2, rfl, hx2⟩, hb2⟩; obtain ⟨rfl, rfl⟩ := pr_unique hx2 HX.out; clear hx2))
    go_ret
    exact ⟨rfl, hb1.trans (hb2.mono hb1.size)⟩

def tab32 : List Int := [0, 1, 28, 2, 29, 14, 24, 3, 30, 22, 20, 15, 25, 17, 4, 8, 31, 27, 13, 23, 21, 19, 16, 7, 26, 12, 18, 6, 11, 5, 10, 9]

theorem bits_of {b : Nat} (h : (Lit.float .f64 b).wf = true) : b < 18446744073709551616 := by
  simpa [Lit.wf] using h

theorem contract (H : Type) (enc : TypeId × Value → H) (W : World) (base : Nat) (args : Array Value) (ds gs : List (DataW H)) (before : List MemPlace)
    (hval : ∀ (j : Nat) t v, Tryd.f4.params[j]? = some t → args[j]? = some v → Value.okWide Tryd.prog W .any base t v)
    (hW : DataW.Whole enc Tryd.prog Tryd.f4.params.toList Rows.fnExactNumTextSpec.vars false W args.toList ds gs before) (hL : laidMetH Tryd.prog Rows.fnExactNumTextRow.laid W) :
    Calls Tryd.prog 4 args W fun e W' => ∃ v, e = .returned v ∧ Rows.fnExactNumTextSpec.post enc Tryd.prog Tryd.f4 false true false false W args v W' := by
  have hW' := hW
  obtain ⟨p, q, hA0, hV, rfl, hfz, hnd⟩ := hW
  have hA : DataW.TrodAll enc Tryd.prog W 0 (fun _ => true) true Tryd.f4.params.toList args.toList ds p := hA0
  rw [Tryd.params4] at hA hval
  obtain ⟨v0, d0, rfl, rfl, h0⟩ := trodAll_one hA
  obtain ⟨rfl, rfl⟩ := trodVars_none hV
  obtain ⟨a, rfl, rfl, rfl, wa⟩ := open_float Tryd.underlying22 (hval 0 22 v0 rfl rfl) h0
  clear hA0
  simp only [List.append_nil] at hW'
  obtain ⟨s, r, hr, e⟩ := exists_wd a (bits_of wa)
  subst e
  refine (law_any s r hr W (tab_of hL) (pow_of hL)).mono fun e W' ⟨he, hb⟩ => ?_
  subst he
  exact ⟨_, rfl, ⟨_, _, _, [], [], [], hW', trodAll_mk1 (shut_bool Tryd.underlying4 _), trodAll_mk1 (shut_float Tryd.underlying22 wa), rfl, hb.frame _, fun h => by cases h⟩⟩

/-- A world for the witness: the settled one, the table holding what its initialiser lays. -/
theorem laid_met (os : Os) : laidMet Tryd.prog Rows.fnExactNumTextRow.laid (({ World.holding Tryd.prog os ⟨#[], #[], []⟩ with heap := (World.holding Tryd.prog os ⟨#[], #[], []⟩).heap.mapIdx fun i o => match o with
      | .cells c t frozen => .cells (if i = 1 then (tab64.map (Value.int .u8)).toArray else if i = 6 then (tab32.map (Value.int .u8)).toArray else if i = 2 then (Lib.pow10Tab.map (Value.int .u64)).toArray else c) t frozen
      | o => o } : World).forCall (fun _ _ => 0) ⟨#[], #[.float .f64 0], []⟩).memory :=
  laidMet_of_run' 70 (by kernel_rfl) (by kernel_rfl)
theorem reads (os : Os) {H : Type} (enc : TypeId × Value → H) : ∃ places, DataW.whole enc Tryd.prog (({ World.holding Tryd.prog os ⟨#[], #[], []⟩ with heap := (World.holding Tryd.prog os ⟨#[], #[], []⟩).heap.mapIdx fun i o => match o with
      | .cells c t frozen => .cells (if i = 1 then (tab64.map (Value.int .u8)).toArray else if i = 6 then (tab32.map (Value.int .u8)).toArray else if i = 2 then (Lib.pow10Tab.map (Value.int .u64)).toArray else c) t frozen
      | o => o } : World).forCall (fun _ _ => 0) ⟨#[], #[.float .f64 0], []⟩).memory Tryd.f4.params.toList Rows.fnExactNumTextSpec.vars false #[Value.float .f64 0].toList 8 = some ([.lit (.float .f64 0)], [], places) :=
  ⟨[], by kernel_rfl⟩

set_option maxRecDepth 100000 in
theorem lifted (os : Os) (started : os.Started) (H : Type) (enc : TypeId × Value → H) (F : Stop.Interp) :
    ReturnsInHanded {} Tryd.checked os 4 .any ((OpenSpec.ofChange Rows.fnExactNumTextSpec).preRow enc Tryd.prog Tryd.f4 Rows.fnExactNumTextRow.domain false Rows.fnExactNumTextRow.laid) (((OpenSpec.ofChange Rows.fnExactNumTextSpec).at F).post enc Tryd.prog Tryd.f4 false true false false) := by
  obtain ⟨places, hx⟩ := reads os enc
  refine returnsInHanded_of_row (C := Tryd.checked) (s := OpenSpec.ofChange Rows.fnExactNumTextSpec) own started (by kernel_rfl) Tryd.func4
    (witness_row_at (enc := enc) (C := Tryd.checked) false _ #[.float .f64 0] rfl (by kernel_rfl) (by kernel_rfl) (by kernel_rfl)
      (OpenSpec.preRow_of_cond 8 hx (by kernel_rfl) (fun k hk => by cases hk) (by kernel_rfl) (laid_met os))) ?_
  intro W base args ds gs before hval hW _ _ _ hL _ _
  exact contract H enc W base args ds gs before hval hW hL

theorem said : Rows.FnExactNumTextSaid :=
  OpenClaim.holds_of_cond 4 Tryd.f4 rfl rfl rfl rfl rfl rfl rfl ⟨rfl, rfl, rfl, rfl, rfl⟩ rfl rfl rfl rfl rfl (by kernel_rfl) Tryd.func4 (by kernel_rfl)
    (of_decide_eq_true (by kernel_rfl)) (by unfold Func.isWrapper; rw [if_neg (by decide +kernel)]; exact ⟨rfl, rfl⟩)
    (fun os started H enc _ F => by rw [OpenClaim.pre_eq_preRow]; exact lifted os started H enc F)

theorem plain (f : FuncId) (fn : Func) (hf : Tryd.pinned.checked.prog.funcNamed "loop.example/g00696/laws.FnExactNumText" = some f) (hfn : Tryd.pinned.checked.prog.funcs[f]? = some fn) :
    true = Tryd.pinned.checked.prog.looks [] ∧ ∀ (j : Nat) t, fn.params[j]? = some t → Tryd.pinned.checked.prog.wantsStandIn t = false := by
  obtain rfl : f = 4 := Option.some.inj ((show Tryd.prog.funcNamed "loop.example/g00696/laws.FnExactNumText" = some 4 by kernel_rfl).symm.trans hf) |>.symm
  obtain rfl : fn = Tryd.f4 := (Option.some.inj (Tryd.func4.symm.trans hfn)).symm
  refine ⟨by kernel_rfl, fun j t ht => ?_⟩
  rw [Tryd.params4] at ht
  obtain rfl : t = 22 := by simpa using Array.mem_of_getElem? ht
  exact (show Tryd.prog.wantsStandIn 22 = false by kernel_rfl)

end Go.Proofs.YtphcfhndgadkgaqDoor.fnText
namespace Go.Proofs.YtphcfhndgadkgaqDoor
theorem fnExactNumText_card : Rows.FnExactNumTextCardSaid :=
  Claim7.holds_tied_plain_at .later [] _ _ _ _ fnText.said (fun _ h => by cases h) (by kernel_rfl) (fun _ h => by cases h) fnExactNumText_row_tie rfl ⟨rfl, rfl⟩ (by kernel_rfl) rfl fnText.plain (by kernel_rfl)
end Go.Proofs.YtphcfhndgadkgaqDoor
