/-
  No cell of these rows narrows 'for every input' (looked for: loops, veiled, ifaces, maps, wideKeys, modest, calm, conditions, laid).
  DERIVED. THE GIVEN ROWS OF THIS SEAT. 4 by the template 'for every input the law returns true; each argument reads behind the call as it read before'; 0 by the template 'total and deterministic' (their statements: YtphcfhndgadkgapTotals.lean).
  GIVEN WITH THE SEED: the statements are not yours to turn. If you find one false, say at which input.
  Laid BY PROGRAM, IN A SANDBOX (cutbox-rows.mjs): the forced cells as the released guide's own fill.sh prints them over the translation 1190cc78f640879e… (all of the seat's roots in one cut). By AI agents, Wed Nov 11 2026. No macro, syntax, notation, axiom, sorry.
-/
import Derived.Test.YtphcfhndgadkgapChecked
import GoSem.Claim
import GoSem.ClaimJoined
import GoSem.ClaimMapViews
import Derived.JoinedTies
import Derived.KernelRfl
namespace Go.Proofs.Ytphcfhndgadkgap
/- THE CELL 'sum', in the pinned program and in every row, IS THE sha256 OF THE DUMP (.gsa) THAT YtphcfhndgadkgapProg.lean LOADS. Nothing in Lean hashes anything: it is a label: what it is worth is what the hold of that sum in a sandbox is worth. -/
noncomputable def Try.pinned : Pinned := { name := "ytphcfhndgadkgap", sum := "1190cc78f640879eb27c3c4f3987d82ea8db688b71d65880a9ffc2a249c8caba", checked := Try.checked }
namespace Rows
def none {H : Type} : Left H := { results := [], args := [] }

/-- 'laws.FnExactKindOf': WHATEVER THE INPUT: true; the input reads as it did. -/
def fnExactKindOfSpec : ChangeSpec := { name := "fnExactKindOf", fn := fun _ => fun
  | [d] => { results := [.lit (.bool true)], args := [d] }
  | _ => none }
def fnExactKindOfRow : OpenClaim := { program := "ytphcfhndgadkgap", sum := "1190cc78f640879eb27c3c4f3987d82ea8db688b71d65880a9ffc2a249c8caba", func := "loop.example/g00696/laws.FnExactKindOf", spec := "fnExactKindOf", inPlace := ["math.Float64bits", "math.Float64frombits", "math.archTrunc"], apart := false }
def FnExactKindOfSaid : Prop := fnExactKindOfRow.holds Try.pinned (OpenSpec.ofChange fnExactKindOfSpec)

/-- ITS FALSE NEIGHBOUR: 'it returns false'. Refute it at one input. -/
def fnExactKindOfWrong : ChangeSpec := { name := "fnExactKindOf", fn := fun _ => fun
  | [d] => { results := [.lit (.bool false)], args := [d] }
  | _ => none }
def FnExactKindOfWrongFalsely : Prop := fnExactKindOfRow.holds Try.pinned (OpenSpec.ofChange fnExactKindOfWrong)

/-- 'laws.FnExactIsMinus': WHATEVER THE INPUT: true; the input reads as it did. -/
def fnExactIsMinusSpec : ChangeSpec := { name := "fnExactIsMinus", fn := fun _ => fun
  | [d] => { results := [.lit (.bool true)], args := [d] }
  | _ => none }
def fnExactIsMinusRow : OpenClaim := { program := "ytphcfhndgadkgap", sum := "1190cc78f640879eb27c3c4f3987d82ea8db688b71d65880a9ffc2a249c8caba", func := "loop.example/g00696/laws.FnExactIsMinus", spec := "fnExactIsMinus", inPlace := ["math.Float64bits"], apart := false }
def FnExactIsMinusSaid : Prop := fnExactIsMinusRow.holds Try.pinned (OpenSpec.ofChange fnExactIsMinusSpec)

/-- ITS FALSE NEIGHBOUR: 'it returns false'. Refute it at one input. -/
def fnExactIsMinusWrong : ChangeSpec := { name := "fnExactIsMinus", fn := fun _ => fun
  | [d] => { results := [.lit (.bool false)], args := [d] }
  | _ => none }
def FnExactIsMinusWrongFalsely : Prop := fnExactIsMinusRow.holds Try.pinned (OpenSpec.ofChange fnExactIsMinusWrong)

/-- 'laws.FnExactSameNum': WHATEVER THE INPUT: true; the input reads as it did. -/
def fnExactSameNumSpec : ChangeSpec := { name := "fnExactSameNum", fn := fun _ => fun
  | [d1, d2] => { results := [.lit (.bool true)], args := [d1, d2] }
  | _ => none }
def fnExactSameNumRow : OpenClaim := { program := "ytphcfhndgadkgap", sum := "1190cc78f640879eb27c3c4f3987d82ea8db688b71d65880a9ffc2a249c8caba", func := "loop.example/g00696/laws.FnExactSameNum", spec := "fnExactSameNum", inPlace := ["math.Float64bits"], apart := false }
def FnExactSameNumSaid : Prop := fnExactSameNumRow.holds Try.pinned (OpenSpec.ofChange fnExactSameNumSpec)

/-- ITS FALSE NEIGHBOUR: 'it returns false'. Refute it at one input. -/
def fnExactSameNumWrong : ChangeSpec := { name := "fnExactSameNum", fn := fun _ => fun
  | [d1, d2] => { results := [.lit (.bool false)], args := [d1, d2] }
  | _ => none }
def FnExactSameNumWrongFalsely : Prop := fnExactSameNumRow.holds Try.pinned (OpenSpec.ofChange fnExactSameNumWrong)

/-- 'laws.FnExactCompareNum': WHATEVER THE INPUT: true; the input reads as it did. -/
def fnExactCompareNumSpec : ChangeSpec := { name := "fnExactCompareNum", fn := fun _ => fun
  | [d1, d2] => { results := [.lit (.bool true)], args := [d1, d2] }
  | _ => none }
def fnExactCompareNumRow : OpenClaim := { program := "ytphcfhndgadkgap", sum := "1190cc78f640879eb27c3c4f3987d82ea8db688b71d65880a9ffc2a249c8caba", func := "loop.example/g00696/laws.FnExactCompareNum", spec := "fnExactCompareNum", inPlace := ["math.Float64bits"], apart := false }
def FnExactCompareNumSaid : Prop := fnExactCompareNumRow.holds Try.pinned (OpenSpec.ofChange fnExactCompareNumSpec)

/-- ITS FALSE NEIGHBOUR: 'it returns false'. Refute it at one input. -/
def fnExactCompareNumWrong : ChangeSpec := { name := "fnExactCompareNum", fn := fun _ => fun
  | [d1, d2] => { results := [.lit (.bool false)], args := [d1, d2] }
  | _ => none }
def FnExactCompareNumWrongFalsely : Prop := fnExactCompareNumRow.holds Try.pinned (OpenSpec.ofChange fnExactCompareNumWrong)

/- THE SECOND FORM. 'bulk': how many values and letters a reading holds, each counted each time it is reached (what is shared counts as often as it is met; a slice's spare places count too). A statement '..UptoSaid' is the law's where the arguments, and the package variables that the reading takes, are together of bulk at most 1048576: NARROWER than '..Said'. Prove '..Said' where nothing that the law and all that it calls make is longer than what came in: it says more and counts as full. Else prove '..UptoSaid'. A law counts once. -/
mutual
def uptoBulk {H : Type} : DataW H → Nat
  | .lit (.string bytes) => bytes.length + 1
  | .lit _ => 1
  | .nil => 1
  | .ptr d => uptoBulk d + 1
  | .slice elems spare => uptoBulkAll elems + uptoBulkAll spare + 1
  | .agg parts => uptoBulkAll parts + 1
  | .iface _ d => uptoBulk d + 1
  | .map entries => uptoBulkEntries entries + 1
  | .held _ => 1
def uptoBulkAll {H : Type} : List (DataW H) → Nat
  | [] => 0
  | d :: r => uptoBulk d + uptoBulkAll r
def uptoBulkEntries {H : Type} : List (Lit × DataW H) → Nat
  | [] => 0
  | x :: r => uptoBulkEntry x + uptoBulkEntries r
def uptoBulkEntry {H : Type} : Lit × DataW H → Nat
  | (.string bytes, d) => bytes.length + uptoBulk d + 1
  | (_, d) => uptoBulk d + 1
 end
def uptoSmall : (H : Type) → List (DataW H) → Bool := fun _ ds => decide (uptoBulkAll ds ≤ 1048576)
def OpenSpec.upto (s : _root_.Go.ChangeSpec) : _root_.Go.OpenSpec := { _root_.Go.OpenSpec.ofChange s with cond := some uptoSmall }

/-- 'laws.FnExactKindOf', WHERE WHAT IT READS IS OF BULK AT MOST 1048576: true; the input reads as it did. -/
def fnExactKindOfUptoRow : OpenClaim := { program := "ytphcfhndgadkgap", sum := "1190cc78f640879eb27c3c4f3987d82ea8db688b71d65880a9ffc2a249c8caba", func := "loop.example/g00696/laws.FnExactKindOf", spec := "fnExactKindOf", inPlace := ["math.Float64bits", "math.Float64frombits", "math.archTrunc"], apart := false, narrowed := true }
def FnExactKindOfUptoSaid : Prop := fnExactKindOfUptoRow.holds Try.pinned (OpenSpec.upto fnExactKindOfSpec)

/-- 'laws.FnExactIsMinus', WHERE WHAT IT READS IS OF BULK AT MOST 1048576: true; the input reads as it did. -/
def fnExactIsMinusUptoRow : OpenClaim := { program := "ytphcfhndgadkgap", sum := "1190cc78f640879eb27c3c4f3987d82ea8db688b71d65880a9ffc2a249c8caba", func := "loop.example/g00696/laws.FnExactIsMinus", spec := "fnExactIsMinus", inPlace := ["math.Float64bits"], apart := false, narrowed := true }
def FnExactIsMinusUptoSaid : Prop := fnExactIsMinusUptoRow.holds Try.pinned (OpenSpec.upto fnExactIsMinusSpec)

/-- 'laws.FnExactSameNum', WHERE WHAT IT READS IS OF BULK AT MOST 1048576: true; the input reads as it did. -/
def fnExactSameNumUptoRow : OpenClaim := { program := "ytphcfhndgadkgap", sum := "1190cc78f640879eb27c3c4f3987d82ea8db688b71d65880a9ffc2a249c8caba", func := "loop.example/g00696/laws.FnExactSameNum", spec := "fnExactSameNum", inPlace := ["math.Float64bits"], apart := false, narrowed := true }
def FnExactSameNumUptoSaid : Prop := fnExactSameNumUptoRow.holds Try.pinned (OpenSpec.upto fnExactSameNumSpec)

/-- 'laws.FnExactCompareNum', WHERE WHAT IT READS IS OF BULK AT MOST 1048576: true; the input reads as it did. -/
def fnExactCompareNumUptoRow : OpenClaim := { program := "ytphcfhndgadkgap", sum := "1190cc78f640879eb27c3c4f3987d82ea8db688b71d65880a9ffc2a249c8caba", func := "loop.example/g00696/laws.FnExactCompareNum", spec := "fnExactCompareNum", inPlace := ["math.Float64bits"], apart := false, narrowed := true }
def FnExactCompareNumUptoSaid : Prop := fnExactCompareNumUptoRow.holds Try.pinned (OpenSpec.upto fnExactCompareNumSpec)

end Rows
end Go.Proofs.Ytphcfhndgadkgap
