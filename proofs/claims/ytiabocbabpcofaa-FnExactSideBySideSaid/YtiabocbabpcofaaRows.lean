/-
  No cell of these rows narrows 'for every input' (looked for: loops, veiled, ifaces, maps, wideKeys, modest, calm, conditions, laid).
  DERIVED. THE GIVEN ROWS OF THIS SEAT. 6 by the template 'for every input the law returns true; each argument reads behind the call as it read before'; 0 by the template 'total and deterministic' (their statements: YtiabocbabpcofaaTotals.lean).
  GIVEN WITH THE SEED: the statements are not yours to turn. If you find one false, say at which input.
  Laid BY PROGRAM, IN A SANDBOX (cutbox-rows.mjs): the forced cells as the released guide's own fill.sh prints them over the translation 0cc06424b5b0db1b… (all of the seat's roots in one cut). By AI agents, Wed Nov 11 2026. No macro, syntax, notation, axiom, sorry.
-/
import Derived.Test.YtiabocbabpcofaaChecked
import GoSem.Claim
import GoSem.ClaimJoined
import GoSem.ClaimMapViews
import Derived.JoinedTies
import Derived.KernelRfl
namespace Go.Proofs.Ytiabocbabpcofaa
/- THE CELL 'sum', in the pinned program and in every row, IS THE sha256 OF THE DUMP (.gsa) THAT YtiabocbabpcofaaProg.lean LOADS. Nothing in Lean hashes anything: it is a label: what it is worth is what the hold of that sum in a sandbox is worth. -/
noncomputable def Try.pinned : Pinned := { name := "ytiabocbabpcofaa", sum := "0cc06424b5b0db1b1c45d16d02122155486a902b4553b247822296d8c54e96b0", checked := Try.checked }
namespace Rows
def none {H : Type} : Left H := { results := [], args := [] }

/-- 'laws.FnExactGoodTrace': WHATEVER THE INPUT: true; the input reads as it did. -/
def fnExactGoodTraceSpec : ChangeSpec := { name := "fnExactGoodTrace", fn := fun _ => fun
  | [d] => { results := [.lit (.bool true)], args := [d] }
  | _ => none }
def fnExactGoodTraceRow : OpenClaim := { program := "ytiabocbabpcofaa", sum := "0cc06424b5b0db1b1c45d16d02122155486a902b4553b247822296d8c54e96b0", func := "loop.example/g00696/laws.FnExactGoodTrace", spec := "fnExactGoodTrace", apart := false }
def FnExactGoodTraceSaid : Prop := fnExactGoodTraceRow.holds Try.pinned (OpenSpec.ofChange fnExactGoodTraceSpec)

/-- ITS FALSE NEIGHBOUR: 'it returns false'. Refute it at one input. -/
def fnExactGoodTraceWrong : ChangeSpec := { name := "fnExactGoodTrace", fn := fun _ => fun
  | [d] => { results := [.lit (.bool false)], args := [d] }
  | _ => none }
def FnExactGoodTraceWrongFalsely : Prop := fnExactGoodTraceRow.holds Try.pinned (OpenSpec.ofChange fnExactGoodTraceWrong)

/-- 'laws.FnExactNextAfter': WHATEVER THE INPUT: true; the input reads as it did. -/
def fnExactNextAfterSpec : ChangeSpec := { name := "fnExactNextAfter", fn := fun _ => fun
  | [d] => { results := [.lit (.bool true)], args := [d] }
  | _ => none }
def fnExactNextAfterRow : OpenClaim := { program := "ytiabocbabpcofaa", sum := "0cc06424b5b0db1b1c45d16d02122155486a902b4553b247822296d8c54e96b0", func := "loop.example/g00696/laws.FnExactNextAfter", spec := "fnExactNextAfter", unfollowed := true, recurses := true, apart := false }
def FnExactNextAfterSaid : Prop := fnExactNextAfterRow.holds Try.pinned (OpenSpec.ofChange fnExactNextAfterSpec)

/-- ITS FALSE NEIGHBOUR: 'it returns false'. Refute it at one input. -/
def fnExactNextAfterWrong : ChangeSpec := { name := "fnExactNextAfter", fn := fun _ => fun
  | [d] => { results := [.lit (.bool false)], args := [d] }
  | _ => none }
def FnExactNextAfterWrongFalsely : Prop := fnExactNextAfterRow.holds Try.pinned (OpenSpec.ofChange fnExactNextAfterWrong)

/-- 'laws.FnExactAheadIn': WHATEVER THE INPUT: true; the input reads as it did. -/
def fnExactAheadInSpec : ChangeSpec := { name := "fnExactAheadIn", fn := fun _ => fun
  | [d1, d2, d3] => { results := [.lit (.bool true)], args := [d1, d2, d3] }
  | _ => none }
def fnExactAheadInRow : OpenClaim := { program := "ytiabocbabpcofaa", sum := "0cc06424b5b0db1b1c45d16d02122155486a902b4553b247822296d8c54e96b0", func := "loop.example/g00696/laws.FnExactAheadIn", spec := "fnExactAheadIn", apart := false }
def FnExactAheadInSaid : Prop := fnExactAheadInRow.holds Try.pinned (OpenSpec.ofChange fnExactAheadInSpec)

/-- ITS FALSE NEIGHBOUR: 'it returns false'. Refute it at one input. -/
def fnExactAheadInWrong : ChangeSpec := { name := "fnExactAheadIn", fn := fun _ => fun
  | [d1, d2, d3] => { results := [.lit (.bool false)], args := [d1, d2, d3] }
  | _ => none }
def FnExactAheadInWrongFalsely : Prop := fnExactAheadInRow.holds Try.pinned (OpenSpec.ofChange fnExactAheadInWrong)

/-- 'laws.FnExactClocksOf': WHATEVER THE INPUT: true; the input reads as it did. -/
def fnExactClocksOfSpec : ChangeSpec := { name := "fnExactClocksOf", fn := fun _ => fun
  | [d] => { results := [.lit (.bool true)], args := [d] }
  | _ => none }
def fnExactClocksOfRow : OpenClaim := { program := "ytiabocbabpcofaa", sum := "0cc06424b5b0db1b1c45d16d02122155486a902b4553b247822296d8c54e96b0", func := "loop.example/g00696/laws.FnExactClocksOf", spec := "fnExactClocksOf", apart := false }
def FnExactClocksOfSaid : Prop := fnExactClocksOfRow.holds Try.pinned (OpenSpec.ofChange fnExactClocksOfSpec)

/-- ITS FALSE NEIGHBOUR: 'it returns false'. Refute it at one input. -/
def fnExactClocksOfWrong : ChangeSpec := { name := "fnExactClocksOf", fn := fun _ => fun
  | [d] => { results := [.lit (.bool false)], args := [d] }
  | _ => none }
def FnExactClocksOfWrongFalsely : Prop := fnExactClocksOfRow.holds Try.pinned (OpenSpec.ofChange fnExactClocksOfWrong)

/-- 'laws.FnExactClockLess': WHATEVER THE INPUT: true; the input reads as it did. -/
def fnExactClockLessSpec : ChangeSpec := { name := "fnExactClockLess", fn := fun _ => fun
  | [d1, d2] => { results := [.lit (.bool true)], args := [d1, d2] }
  | _ => none }
def fnExactClockLessRow : OpenClaim := { program := "ytiabocbabpcofaa", sum := "0cc06424b5b0db1b1c45d16d02122155486a902b4553b247822296d8c54e96b0", func := "loop.example/g00696/laws.FnExactClockLess", spec := "fnExactClockLess", apart := false }
def FnExactClockLessSaid : Prop := fnExactClockLessRow.holds Try.pinned (OpenSpec.ofChange fnExactClockLessSpec)

/-- ITS FALSE NEIGHBOUR: 'it returns false'. Refute it at one input. -/
def fnExactClockLessWrong : ChangeSpec := { name := "fnExactClockLess", fn := fun _ => fun
  | [d1, d2] => { results := [.lit (.bool false)], args := [d1, d2] }
  | _ => none }
def FnExactClockLessWrongFalsely : Prop := fnExactClockLessRow.holds Try.pinned (OpenSpec.ofChange fnExactClockLessWrong)

/-- 'laws.FnExactSideBySide': WHATEVER THE INPUT: true; the input reads as it did. -/
def fnExactSideBySideSpec : ChangeSpec := { name := "fnExactSideBySide", fn := fun _ => fun
  | [d] => { results := [.lit (.bool true)], args := [d] }
  | _ => none }
def fnExactSideBySideRow : OpenClaim := { program := "ytiabocbabpcofaa", sum := "0cc06424b5b0db1b1c45d16d02122155486a902b4553b247822296d8c54e96b0", func := "loop.example/g00696/laws.FnExactSideBySide", spec := "fnExactSideBySide", unfollowed := true, recurses := true, apart := false }
def FnExactSideBySideSaid : Prop := fnExactSideBySideRow.holds Try.pinned (OpenSpec.ofChange fnExactSideBySideSpec)

/-- ITS FALSE NEIGHBOUR: 'it returns false'. Refute it at one input. -/
def fnExactSideBySideWrong : ChangeSpec := { name := "fnExactSideBySide", fn := fun _ => fun
  | [d] => { results := [.lit (.bool false)], args := [d] }
  | _ => none }
def FnExactSideBySideWrongFalsely : Prop := fnExactSideBySideRow.holds Try.pinned (OpenSpec.ofChange fnExactSideBySideWrong)

/- THE SECOND FORM. 'bulk': how many values and letters a reading holds, each counted each time it is reached (what is shared counts as often as it is met; a slice's spare places count too). A statement '..UptoSaid' is the law's where the arguments, and the package variables that the reading takes, are together of bulk at most 1048576: NARROWER than '..Said'. Prove '..Said' where nothing that the law and all that it calls make is longer than what came in: it says more and counts as full. Else prove '..UptoSaid'. A law counts once. -/
mutual
def uptoBulk {H : Type} : DataW H → Nat
  | .lit (.string bytes) => bytes.length + 1
  | .lit _ => 1
  | .nil => 1
  | .ptr d => uptoBulk d + 1
  | .slice elems spare => uptoBulkAll elems + uptoBulkAll spare + 1
  | .agg parts => uptoBulkAll parts + 1
  | .iface _ d => uptoBulk d + 1
  | .map entries => uptoBulkEntries entries + 1
  | .held _ => 1
def uptoBulkAll {H : Type} : List (DataW H) → Nat
  | [] => 0
  | d :: r => uptoBulk d + uptoBulkAll r
def uptoBulkEntries {H : Type} : List (Lit × DataW H) → Nat
  | [] => 0
  | x :: r => uptoBulkEntry x + uptoBulkEntries r
def uptoBulkEntry {H : Type} : Lit × DataW H → Nat
  | (.string bytes, d) => bytes.length + uptoBulk d + 1
  | (_, d) => uptoBulk d + 1
 end
def uptoSmall : (H : Type) → List (DataW H) → Bool := fun _ ds => decide (uptoBulkAll ds ≤ 1048576)
def OpenSpec.upto (s : _root_.Go.ChangeSpec) : _root_.Go.OpenSpec := { _root_.Go.OpenSpec.ofChange s with cond := some uptoSmall }

/-- 'laws.FnExactGoodTrace', WHERE WHAT IT READS IS OF BULK AT MOST 1048576: true; the input reads as it did. -/
def fnExactGoodTraceUptoRow : OpenClaim := { program := "ytiabocbabpcofaa", sum := "0cc06424b5b0db1b1c45d16d02122155486a902b4553b247822296d8c54e96b0", func := "loop.example/g00696/laws.FnExactGoodTrace", spec := "fnExactGoodTrace", apart := false, narrowed := true }
def FnExactGoodTraceUptoSaid : Prop := fnExactGoodTraceUptoRow.holds Try.pinned (OpenSpec.upto fnExactGoodTraceSpec)

/-- 'laws.FnExactNextAfter', WHERE WHAT IT READS IS OF BULK AT MOST 1048576: true; the input reads as it did. -/
def fnExactNextAfterUptoRow : OpenClaim := { program := "ytiabocbabpcofaa", sum := "0cc06424b5b0db1b1c45d16d02122155486a902b4553b247822296d8c54e96b0", func := "loop.example/g00696/laws.FnExactNextAfter", spec := "fnExactNextAfter", unfollowed := true, recurses := true, apart := false, narrowed := true }
def FnExactNextAfterUptoSaid : Prop := fnExactNextAfterUptoRow.holds Try.pinned (OpenSpec.upto fnExactNextAfterSpec)

/-- 'laws.FnExactAheadIn', WHERE WHAT IT READS IS OF BULK AT MOST 1048576: true; the input reads as it did. -/
def fnExactAheadInUptoRow : OpenClaim := { program := "ytiabocbabpcofaa", sum := "0cc06424b5b0db1b1c45d16d02122155486a902b4553b247822296d8c54e96b0", func := "loop.example/g00696/laws.FnExactAheadIn", spec := "fnExactAheadIn", apart := false, narrowed := true }
def FnExactAheadInUptoSaid : Prop := fnExactAheadInUptoRow.holds Try.pinned (OpenSpec.upto fnExactAheadInSpec)

/-- 'laws.FnExactClocksOf', WHERE WHAT IT READS IS OF BULK AT MOST 1048576: true; the input reads as it did. -/
def fnExactClocksOfUptoRow : OpenClaim := { program := "ytiabocbabpcofaa", sum := "0cc06424b5b0db1b1c45d16d02122155486a902b4553b247822296d8c54e96b0", func := "loop.example/g00696/laws.FnExactClocksOf", spec := "fnExactClocksOf", apart := false, narrowed := true }
def FnExactClocksOfUptoSaid : Prop := fnExactClocksOfUptoRow.holds Try.pinned (OpenSpec.upto fnExactClocksOfSpec)

/-- 'laws.FnExactClockLess', WHERE WHAT IT READS IS OF BULK AT MOST 1048576: true; the input reads as it did. -/
def fnExactClockLessUptoRow : OpenClaim := { program := "ytiabocbabpcofaa", sum := "0cc06424b5b0db1b1c45d16d02122155486a902b4553b247822296d8c54e96b0", func := "loop.example/g00696/laws.FnExactClockLess", spec := "fnExactClockLess", apart := false, narrowed := true }
def FnExactClockLessUptoSaid : Prop := fnExactClockLessUptoRow.holds Try.pinned (OpenSpec.upto fnExactClockLessSpec)

/-- 'laws.FnExactSideBySide', WHERE WHAT IT READS IS OF BULK AT MOST 1048576: true; the input reads as it did. -/
def fnExactSideBySideUptoRow : OpenClaim := { program := "ytiabocbabpcofaa", sum := "0cc06424b5b0db1b1c45d16d02122155486a902b4553b247822296d8c54e96b0", func := "loop.example/g00696/laws.FnExactSideBySide", spec := "fnExactSideBySide", unfollowed := true, recurses := true, apart := false, narrowed := true }
def FnExactSideBySideUptoSaid : Prop := fnExactSideBySideUptoRow.holds Try.pinned (OpenSpec.upto fnExactSideBySideSpec)

end Rows
end Go.Proofs.Ytiabocbabpcofaa
