/-
  NARROWER THAN 'FOR EVERY INPUT', by the rows' own cells (each row's printed sentence says how): FnExactProgText: laid · FnExactSpawnsIn: laid · FnExactNewState: laid · FnExactEnabledIn: laid · FnExactWaitsFor: laid.
  DERIVED. THE GIVEN ROWS OF THIS SEAT. 5 by the template 'for every input the law returns true; each argument reads behind the call as it read before'; 0 by the template 'total and deterministic' (their statements: YtdifamjkbagfcaaDoorTotals.lean).
  GIVEN WITH THE SEED: the statements are not yours to turn. If you find one false, say at which input.
  Laid BY PROGRAM, IN A SANDBOX (cutbox-rows.mjs): the forced cells as the released guide's own fill.sh prints them over the translation b9c1b5d22e886823… (all of the seat's roots in one cut). By AI agents, Wed Nov 11 2026. No macro, syntax, notation, axiom, sorry.
-/
import Derived.Test.YtdifamjkbagfcaaDoorChecked
import GoSem.Claim
import GoSem.ClaimJoined
import GoSem.ClaimMapViews
import Derived.JoinedTies
import Derived.KernelRfl
namespace Go.Proofs.YtdifamjkbagfcaaDoor
/- THE CELL 'sum', in the pinned program and in every row, IS THE sha256 OF THE DUMP (.gsa) THAT YtdifamjkbagfcaaDoorProg.lean LOADS. Nothing in Lean hashes anything: it is a label: what it is worth is what the hold of that sum in a sandbox is worth. -/
noncomputable def Tryd.pinned : Pinned := { name := "ytdifamjkbagfcaadoor", sum := "b9c1b5d22e886823672e166b1b5ab011bdd7a83dfd4d6d8e546f05501553ff9b", checked := Tryd.checked }
namespace Rows
def none {H : Type} : Left H := { results := [], args := [] }

/- WHAT THE LISTED PACKAGE-LEVEL VARIABLES READ AS WHEN THE CALL BEGINS. Each datum BY PROGRAM (the guide's laid-datum.mjs) off the statement by which the dump's own 'gosem.cut.vars' lays the variable. In a bare row this is a premise. The card (YtdifamjkbagfcaaDoorCards.lean) ties it to the program's text. -/
def laid_math_bits_deBruijn32tab {H : Type} : DataW H := .agg [.lit (.int .u8 0), .lit (.int .u8 1), .lit (.int .u8 28), .lit (.int .u8 2), .lit (.int .u8 29), .lit (.int .u8 14), .lit (.int .u8 24), .lit (.int .u8 3), .lit (.int .u8 30), .lit (.int .u8 22), .lit (.int .u8 20), .lit (.int .u8 15), .lit (.int .u8 25), .lit (.int .u8 17), .lit (.int .u8 4), .lit (.int .u8 8), .lit (.int .u8 31), .lit (.int .u8 27), .lit (.int .u8 13), .lit (.int .u8 23), .lit (.int .u8 21), .lit (.int .u8 19), .lit (.int .u8 16), .lit (.int .u8 7), .lit (.int .u8 26), .lit (.int .u8 12), .lit (.int .u8 18), .lit (.int .u8 6), .lit (.int .u8 11), .lit (.int .u8 5), .lit (.int .u8 10), .lit (.int .u8 9)]
def laid_math_bits_deBruijn64tab {H : Type} : DataW H := .agg [.lit (.int .u8 0), .lit (.int .u8 1), .lit (.int .u8 56), .lit (.int .u8 2), .lit (.int .u8 57), .lit (.int .u8 49), .lit (.int .u8 28), .lit (.int .u8 3), .lit (.int .u8 61), .lit (.int .u8 58), .lit (.int .u8 42), .lit (.int .u8 50), .lit (.int .u8 38), .lit (.int .u8 29), .lit (.int .u8 17), .lit (.int .u8 4), .lit (.int .u8 62), .lit (.int .u8 47), .lit (.int .u8 59), .lit (.int .u8 36), .lit (.int .u8 45), .lit (.int .u8 43), .lit (.int .u8 51), .lit (.int .u8 22), .lit (.int .u8 53), .lit (.int .u8 39), .lit (.int .u8 33), .lit (.int .u8 30), .lit (.int .u8 24), .lit (.int .u8 18), .lit (.int .u8 12), .lit (.int .u8 5), .lit (.int .u8 63), .lit (.int .u8 55), .lit (.int .u8 48), .lit (.int .u8 27), .lit (.int .u8 60), .lit (.int .u8 41), .lit (.int .u8 37), .lit (.int .u8 16), .lit (.int .u8 46), .lit (.int .u8 35), .lit (.int .u8 44), .lit (.int .u8 21), .lit (.int .u8 52), .lit (.int .u8 32), .lit (.int .u8 23), .lit (.int .u8 11), .lit (.int .u8 54), .lit (.int .u8 26), .lit (.int .u8 40), .lit (.int .u8 15), .lit (.int .u8 34), .lit (.int .u8 20), .lit (.int .u8 31), .lit (.int .u8 10), .lit (.int .u8 25), .lit (.int .u8 14), .lit (.int .u8 19), .lit (.int .u8 9), .lit (.int .u8 13), .lit (.int .u8 8), .lit (.int .u8 7), .lit (.int .u8 6)]
def laid_internal_strconv_uint64pow10 {H : Type} : DataW H := .agg [.lit (.int .u64 1), .lit (.int .u64 10), .lit (.int .u64 100), .lit (.int .u64 1000), .lit (.int .u64 10000), .lit (.int .u64 100000), .lit (.int .u64 1000000), .lit (.int .u64 10000000), .lit (.int .u64 100000000), .lit (.int .u64 1000000000), .lit (.int .u64 10000000000), .lit (.int .u64 100000000000), .lit (.int .u64 1000000000000), .lit (.int .u64 10000000000000), .lit (.int .u64 100000000000000), .lit (.int .u64 1000000000000000), .lit (.int .u64 10000000000000000), .lit (.int .u64 100000000000000000), .lit (.int .u64 1000000000000000000), .lit (.int .u64 10000000000000000000)]
def laid_loop_example_g00696_impl_opForms {H : Type} : DataW H := .agg [.agg [.lit (.string []), .lit (.bool false), .lit (.int .i64 0), .lit (.int .i64 0)], .agg [.lit (.string [112, 117, 115, 104]), .lit (.bool true), .lit (.int .i64 0), .lit (.int .i64 0)], .agg [.lit (.string [108, 111, 97, 100]), .lit (.bool false), .lit (.int .i64 1), .lit (.int .i64 0)], .agg [.lit (.string [115, 116, 111, 114, 101]), .lit (.bool false), .lit (.int .i64 1), .lit (.int .i64 0)], .agg [.lit (.string [97, 100, 100]), .lit (.bool false), .lit (.int .i64 0), .lit (.int .i64 0)], .agg [.lit (.string [115, 117, 98]), .lit (.bool false), .lit (.int .i64 0), .lit (.int .i64 0)], .agg [.lit (.string [109, 117, 108]), .lit (.bool false), .lit (.int .i64 0), .lit (.int .i64 0)], .agg [.lit (.string [100, 105, 118]), .lit (.bool false), .lit (.int .i64 0), .lit (.int .i64 0)], .agg [.lit (.string [108, 101, 115, 115]), .lit (.bool false), .lit (.int .i64 0), .lit (.int .i64 0)], .agg [.lit (.string [115, 97, 109, 101]), .lit (.bool false), .lit (.int .i64 0), .lit (.int .i64 0)], .agg [.lit (.string [106, 117, 109, 112]), .lit (.bool false), .lit (.int .i64 2), .lit (.int .i64 0)], .agg [.lit (.string [117, 110, 108, 101, 115, 115]), .lit (.bool false), .lit (.int .i64 2), .lit (.int .i64 0)], .agg [.lit (.string [108, 111, 99, 107]), .lit (.bool false), .lit (.int .i64 3), .lit (.int .i64 0)], .agg [.lit (.string [117, 110, 108, 111, 99, 107]), .lit (.bool false), .lit (.int .i64 3), .lit (.int .i64 0)], .agg [.lit (.string [115, 112, 97, 119, 110]), .lit (.bool false), .lit (.int .i64 4), .lit (.int .i64 0)], .agg [.lit (.string [106, 111, 105, 110]), .lit (.bool false), .lit (.int .i64 0), .lit (.int .i64 0)], .agg [.lit (.string [119, 97, 105, 116]), .lit (.bool false), .lit (.int .i64 5), .lit (.int .i64 3)], .agg [.lit (.string [115, 105, 103, 110, 97, 108]), .lit (.bool false), .lit (.int .i64 5), .lit (.int .i64 0)]]

/-- 'laws.FnExactProgText': WHATEVER THE INPUT: true; the input reads as it did. -/
def fnExactProgTextSpec : ChangeSpec := { name := "fnExactProgText", vars := ["loop.example/g00696/impl.opForms"], fn := fun _ => fun
  | [d, g1] => { results := [.lit (.bool true)], args := [d], vars := [g1] }
  | _ => none }
def fnExactProgTextRow : OpenClaim := { program := "ytdifamjkbagfcaadoor", sum := "b9c1b5d22e886823672e166b1b5ab011bdd7a83dfd4d6d8e546f05501553ff9b", func := "loop.example/g00696/laws.FnExactProgText", spec := "fnExactProgText", inPlace := ["math.Float64bits", "internal/abi.NoEscape", "math.Float64frombits", "math.archTrunc"], recurses := true, named := ["loop.example/g00696/impl.opForms", "internal/strconv.uint64pow10", "math/bits.deBruijn32tab", "math/bits.deBruijn64tab"], apart := false, laid := [("math/bits.deBruijn32tab", laid_math_bits_deBruijn32tab), ("math/bits.deBruijn64tab", laid_math_bits_deBruijn64tab), ("internal/strconv.uint64pow10", laid_internal_strconv_uint64pow10), ("loop.example/g00696/impl.opForms", laid_loop_example_g00696_impl_opForms)] }
def FnExactProgTextSaid : Prop := fnExactProgTextRow.holds Tryd.pinned (OpenSpec.ofChange fnExactProgTextSpec)

/-- ITS FALSE NEIGHBOUR: 'it returns false'. Refute it at one input. -/
def fnExactProgTextWrong : ChangeSpec := { name := "fnExactProgText", vars := ["loop.example/g00696/impl.opForms"], fn := fun _ => fun
  | [d, g1] => { results := [.lit (.bool false)], args := [d], vars := [g1] }
  | _ => none }
def FnExactProgTextWrongFalsely : Prop := fnExactProgTextRow.holds Tryd.pinned (OpenSpec.ofChange fnExactProgTextWrong)

/-- 'laws.FnExactSpawnsIn': WHATEVER THE INPUT: true; the input reads as it did. -/
def fnExactSpawnsInSpec : ChangeSpec := { name := "fnExactSpawnsIn", vars := ["loop.example/g00696/impl.opForms"], fn := fun _ => fun
  | [d, g1] => { results := [.lit (.bool true)], args := [d], vars := [g1] }
  | _ => none }
def fnExactSpawnsInRow : OpenClaim := { program := "ytdifamjkbagfcaadoor", sum := "b9c1b5d22e886823672e166b1b5ab011bdd7a83dfd4d6d8e546f05501553ff9b", func := "loop.example/g00696/laws.FnExactSpawnsIn", spec := "fnExactSpawnsIn", inPlace := ["math.Float64bits"], recurses := true, named := ["loop.example/g00696/impl.opForms"], apart := false, laid := [("loop.example/g00696/impl.opForms", laid_loop_example_g00696_impl_opForms)] }
def FnExactSpawnsInSaid : Prop := fnExactSpawnsInRow.holds Tryd.pinned (OpenSpec.ofChange fnExactSpawnsInSpec)

/-- ITS FALSE NEIGHBOUR: 'it returns false'. Refute it at one input. -/
def fnExactSpawnsInWrong : ChangeSpec := { name := "fnExactSpawnsIn", vars := ["loop.example/g00696/impl.opForms"], fn := fun _ => fun
  | [d, g1] => { results := [.lit (.bool false)], args := [d], vars := [g1] }
  | _ => none }
def FnExactSpawnsInWrongFalsely : Prop := fnExactSpawnsInRow.holds Tryd.pinned (OpenSpec.ofChange fnExactSpawnsInWrong)

/-- 'laws.FnExactNewState': WHATEVER THE INPUT: true; the input reads as it did. -/
def fnExactNewStateSpec : ChangeSpec := { name := "fnExactNewState", vars := ["loop.example/g00696/impl.opForms"], fn := fun _ => fun
  | [d, g1] => { results := [.lit (.bool true)], args := [d], vars := [g1] }
  | _ => none }
def fnExactNewStateRow : OpenClaim := { program := "ytdifamjkbagfcaadoor", sum := "b9c1b5d22e886823672e166b1b5ab011bdd7a83dfd4d6d8e546f05501553ff9b", func := "loop.example/g00696/laws.FnExactNewState", spec := "fnExactNewState", inPlace := ["math.Float64bits"], named := ["loop.example/g00696/impl.opForms"], apart := false, laid := [("loop.example/g00696/impl.opForms", laid_loop_example_g00696_impl_opForms)] }
def FnExactNewStateSaid : Prop := fnExactNewStateRow.holds Tryd.pinned (OpenSpec.ofChange fnExactNewStateSpec)

/-- ITS FALSE NEIGHBOUR: 'it returns false'. Refute it at one input. -/
def fnExactNewStateWrong : ChangeSpec := { name := "fnExactNewState", vars := ["loop.example/g00696/impl.opForms"], fn := fun _ => fun
  | [d, g1] => { results := [.lit (.bool false)], args := [d], vars := [g1] }
  | _ => none }
def FnExactNewStateWrongFalsely : Prop := fnExactNewStateRow.holds Tryd.pinned (OpenSpec.ofChange fnExactNewStateWrong)

/-- 'laws.FnExactEnabledIn': WHATEVER THE INPUT: true; the input reads as it did. -/
def fnExactEnabledInSpec : ChangeSpec := { name := "fnExactEnabledIn", vars := ["loop.example/g00696/impl.opForms"], fn := fun _ => fun
  | [d1, d2, g1] => { results := [.lit (.bool true)], args := [d1, d2], vars := [g1] }
  | _ => none }
def fnExactEnabledInRow : OpenClaim := { program := "ytdifamjkbagfcaadoor", sum := "b9c1b5d22e886823672e166b1b5ab011bdd7a83dfd4d6d8e546f05501553ff9b", func := "loop.example/g00696/laws.FnExactEnabledIn", spec := "fnExactEnabledIn", inPlace := ["math.Float64bits", "math.Float64frombits", "math.archTrunc"], named := ["loop.example/g00696/impl.opForms"], apart := false, laid := [("loop.example/g00696/impl.opForms", laid_loop_example_g00696_impl_opForms)] }
def FnExactEnabledInSaid : Prop := fnExactEnabledInRow.holds Tryd.pinned (OpenSpec.ofChange fnExactEnabledInSpec)

/-- ITS FALSE NEIGHBOUR: 'it returns false'. Refute it at one input. -/
def fnExactEnabledInWrong : ChangeSpec := { name := "fnExactEnabledIn", vars := ["loop.example/g00696/impl.opForms"], fn := fun _ => fun
  | [d1, d2, g1] => { results := [.lit (.bool false)], args := [d1, d2], vars := [g1] }
  | _ => none }
def FnExactEnabledInWrongFalsely : Prop := fnExactEnabledInRow.holds Tryd.pinned (OpenSpec.ofChange fnExactEnabledInWrong)

/-- 'laws.FnExactWaitsFor': WHATEVER THE INPUT: true; the input reads as it did. -/
def fnExactWaitsForSpec : ChangeSpec := { name := "fnExactWaitsFor", vars := ["loop.example/g00696/impl.opForms"], fn := fun _ => fun
  | [d1, d2, g1] => { results := [.lit (.bool true)], args := [d1, d2], vars := [g1] }
  | _ => none }
def fnExactWaitsForRow : OpenClaim := { program := "ytdifamjkbagfcaadoor", sum := "b9c1b5d22e886823672e166b1b5ab011bdd7a83dfd4d6d8e546f05501553ff9b", func := "loop.example/g00696/laws.FnExactWaitsFor", spec := "fnExactWaitsFor", inPlace := ["math.Float64bits", "math.Float64frombits", "math.archTrunc"], named := ["loop.example/g00696/impl.opForms"], apart := false, laid := [("loop.example/g00696/impl.opForms", laid_loop_example_g00696_impl_opForms)] }
def FnExactWaitsForSaid : Prop := fnExactWaitsForRow.holds Tryd.pinned (OpenSpec.ofChange fnExactWaitsForSpec)

/-- ITS FALSE NEIGHBOUR: 'it returns false'. Refute it at one input. -/
def fnExactWaitsForWrong : ChangeSpec := { name := "fnExactWaitsFor", vars := ["loop.example/g00696/impl.opForms"], fn := fun _ => fun
  | [d1, d2, g1] => { results := [.lit (.bool false)], args := [d1, d2], vars := [g1] }
  | _ => none }
def FnExactWaitsForWrongFalsely : Prop := fnExactWaitsForRow.holds Tryd.pinned (OpenSpec.ofChange fnExactWaitsForWrong)

/- THE SECOND FORM. 'bulk': how many values and letters a reading holds, each counted each time it is reached (what is shared counts as often as it is met; a slice's spare places count too). A statement '..UptoSaid' is the law's where the arguments, and the package variables that the reading takes, are together of bulk at most 1048576: NARROWER than '..Said'. Prove '..Said' where nothing that the law and all that it calls make is longer than what came in: it says more and counts as full. Else prove '..UptoSaid'. A law counts once. -/
mutual
def uptoBulk {H : Type} : DataW H → Nat
  | .lit (.string bytes) => bytes.length + 1
  | .lit _ => 1
  | .nil => 1
  | .ptr d => uptoBulk d + 1
  | .slice elems spare => uptoBulkAll elems + uptoBulkAll spare + 1
  | .agg parts => uptoBulkAll parts + 1
  | .iface _ d => uptoBulk d + 1
  | .map entries => uptoBulkEntries entries + 1
  | .held _ => 1
def uptoBulkAll {H : Type} : List (DataW H) → Nat
  | [] => 0
  | d :: r => uptoBulk d + uptoBulkAll r
def uptoBulkEntries {H : Type} : List (Lit × DataW H) → Nat
  | [] => 0
  | x :: r => uptoBulkEntry x + uptoBulkEntries r
def uptoBulkEntry {H : Type} : Lit × DataW H → Nat
  | (.string bytes, d) => bytes.length + uptoBulk d + 1
  | (_, d) => uptoBulk d + 1
 end
def uptoSmall : (H : Type) → List (DataW H) → Bool := fun _ ds => decide (uptoBulkAll ds ≤ 1048576)
def OpenSpec.upto (s : _root_.Go.ChangeSpec) : _root_.Go.OpenSpec := { _root_.Go.OpenSpec.ofChange s with cond := some uptoSmall }

/-- 'laws.FnExactProgText', WHERE WHAT IT READS IS OF BULK AT MOST 1048576: true; the input reads as it did. -/
def fnExactProgTextUptoRow : OpenClaim := { program := "ytdifamjkbagfcaadoor", sum := "b9c1b5d22e886823672e166b1b5ab011bdd7a83dfd4d6d8e546f05501553ff9b", func := "loop.example/g00696/laws.FnExactProgText", spec := "fnExactProgText", inPlace := ["math.Float64bits", "internal/abi.NoEscape", "math.Float64frombits", "math.archTrunc"], recurses := true, named := ["loop.example/g00696/impl.opForms", "internal/strconv.uint64pow10", "math/bits.deBruijn32tab", "math/bits.deBruijn64tab"], apart := false, laid := [("math/bits.deBruijn32tab", laid_math_bits_deBruijn32tab), ("math/bits.deBruijn64tab", laid_math_bits_deBruijn64tab), ("internal/strconv.uint64pow10", laid_internal_strconv_uint64pow10), ("loop.example/g00696/impl.opForms", laid_loop_example_g00696_impl_opForms)], narrowed := true }
def FnExactProgTextUptoSaid : Prop := fnExactProgTextUptoRow.holds Tryd.pinned (OpenSpec.upto fnExactProgTextSpec)

/-- 'laws.FnExactSpawnsIn', WHERE WHAT IT READS IS OF BULK AT MOST 1048576: true; the input reads as it did. -/
def fnExactSpawnsInUptoRow : OpenClaim := { program := "ytdifamjkbagfcaadoor", sum := "b9c1b5d22e886823672e166b1b5ab011bdd7a83dfd4d6d8e546f05501553ff9b", func := "loop.example/g00696/laws.FnExactSpawnsIn", spec := "fnExactSpawnsIn", inPlace := ["math.Float64bits"], recurses := true, named := ["loop.example/g00696/impl.opForms"], apart := false, laid := [("loop.example/g00696/impl.opForms", laid_loop_example_g00696_impl_opForms)], narrowed := true }
def FnExactSpawnsInUptoSaid : Prop := fnExactSpawnsInUptoRow.holds Tryd.pinned (OpenSpec.upto fnExactSpawnsInSpec)

/-- 'laws.FnExactNewState', WHERE WHAT IT READS IS OF BULK AT MOST 1048576: true; the input reads as it did. -/
def fnExactNewStateUptoRow : OpenClaim := { program := "ytdifamjkbagfcaadoor", sum := "b9c1b5d22e886823672e166b1b5ab011bdd7a83dfd4d6d8e546f05501553ff9b", func := "loop.example/g00696/laws.FnExactNewState", spec := "fnExactNewState", inPlace := ["math.Float64bits"], named := ["loop.example/g00696/impl.opForms"], apart := false, laid := [("loop.example/g00696/impl.opForms", laid_loop_example_g00696_impl_opForms)], narrowed := true }
def FnExactNewStateUptoSaid : Prop := fnExactNewStateUptoRow.holds Tryd.pinned (OpenSpec.upto fnExactNewStateSpec)

/-- 'laws.FnExactEnabledIn', WHERE WHAT IT READS IS OF BULK AT MOST 1048576: true; the input reads as it did. -/
def fnExactEnabledInUptoRow : OpenClaim := { program := "ytdifamjkbagfcaadoor", sum := "b9c1b5d22e886823672e166b1b5ab011bdd7a83dfd4d6d8e546f05501553ff9b", func := "loop.example/g00696/laws.FnExactEnabledIn", spec := "fnExactEnabledIn", inPlace := ["math.Float64bits", "math.Float64frombits", "math.archTrunc"], named := ["loop.example/g00696/impl.opForms"], apart := false, laid := [("loop.example/g00696/impl.opForms", laid_loop_example_g00696_impl_opForms)], narrowed := true }
def FnExactEnabledInUptoSaid : Prop := fnExactEnabledInUptoRow.holds Tryd.pinned (OpenSpec.upto fnExactEnabledInSpec)

/-- 'laws.FnExactWaitsFor', WHERE WHAT IT READS IS OF BULK AT MOST 1048576: true; the input reads as it did. -/
def fnExactWaitsForUptoRow : OpenClaim := { program := "ytdifamjkbagfcaadoor", sum := "b9c1b5d22e886823672e166b1b5ab011bdd7a83dfd4d6d8e546f05501553ff9b", func := "loop.example/g00696/laws.FnExactWaitsFor", spec := "fnExactWaitsFor", inPlace := ["math.Float64bits", "math.Float64frombits", "math.archTrunc"], named := ["loop.example/g00696/impl.opForms"], apart := false, laid := [("loop.example/g00696/impl.opForms", laid_loop_example_g00696_impl_opForms)], narrowed := true }
def FnExactWaitsForUptoSaid : Prop := fnExactWaitsForUptoRow.holds Tryd.pinned (OpenSpec.upto fnExactWaitsForSpec)

end Rows
end Go.Proofs.YtdifamjkbagfcaaDoor
