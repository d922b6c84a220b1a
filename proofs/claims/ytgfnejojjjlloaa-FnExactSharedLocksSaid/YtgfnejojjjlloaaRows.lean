/-
  No cell of these rows narrows 'for every input' (looked for: loops, veiled, ifaces, maps, wideKeys, modest, calm, conditions, laid).
  DERIVED. THE GIVEN ROWS OF THIS SEAT. 6 by the template 'for every input the law returns true; each argument reads behind the call as it read before'; 0 by the template 'total and deterministic' (their statements: YtgfnejojjjlloaaTotals.lean).
  GIVEN WITH THE SEED: the statements are not yours to turn. If you find one false, say at which input.
  Laid BY PROGRAM, IN A SANDBOX (cutbox-rows.mjs): the forced cells as the released guide's own fill.sh prints them over the translation 1c5af405d995f729… (all of the seat's roots in one cut). By AI agents, Wed Nov 11 2026. No macro, syntax, notation, axiom, sorry.
-/
import Derived.Test.YtgfnejojjjlloaaChecked
import GoSem.Claim
import GoSem.ClaimJoined
import GoSem.ClaimMapViews
import Derived.JoinedTies
import Derived.KernelRfl
namespace Go.Proofs.Ytgfnejojjjlloaa
/- THE CELL 'sum', in the pinned program and in every row, IS THE sha256 OF THE DUMP (.gsa) THAT YtgfnejojjjlloaaProg.lean LOADS. Nothing in Lean hashes anything: it is a label: what it is worth is what the hold of that sum in a sandbox is worth. -/
noncomputable def Try.pinned : Pinned := { name := "ytgfnejojjjlloaa", sum := "1c5af405d995f7291fe1bcb2f4d419240635844b6de44615bf73d8a627aed9ee", checked := Try.checked }
namespace Rows
def none {H : Type} : Left H := { results := [], args := [] }

/-- 'laws.FnExactRacesIn': WHATEVER THE INPUT: true; the input reads as it did. -/
def fnExactRacesInSpec : ChangeSpec := { name := "fnExactRacesIn", fn := fun _ => fun
  | [d] => { results := [.lit (.bool true)], args := [d] }
  | _ => none }
def fnExactRacesInRow : OpenClaim := { program := "ytgfnejojjjlloaa", sum := "1c5af405d995f7291fe1bcb2f4d419240635844b6de44615bf73d8a627aed9ee", func := "loop.example/g00696/laws.FnExactRacesIn", spec := "fnExactRacesIn", apart := false }
def FnExactRacesInSaid : Prop := fnExactRacesInRow.holds Try.pinned (OpenSpec.ofChange fnExactRacesInSpec)

/-- ITS FALSE NEIGHBOUR: 'it returns false'. Refute it at one input. -/
def fnExactRacesInWrong : ChangeSpec := { name := "fnExactRacesIn", fn := fun _ => fun
  | [d] => { results := [.lit (.bool false)], args := [d] }
  | _ => none }
def FnExactRacesInWrongFalsely : Prop := fnExactRacesInRow.holds Try.pinned (OpenSpec.ofChange fnExactRacesInWrong)

/-- 'laws.FnExactFirstRace': WHATEVER THE INPUT: true; the input reads as it did. -/
def fnExactFirstRaceSpec : ChangeSpec := { name := "fnExactFirstRace", fn := fun _ => fun
  | [d] => { results := [.lit (.bool true)], args := [d] }
  | _ => none }
def fnExactFirstRaceRow : OpenClaim := { program := "ytgfnejojjjlloaa", sum := "1c5af405d995f7291fe1bcb2f4d419240635844b6de44615bf73d8a627aed9ee", func := "loop.example/g00696/laws.FnExactFirstRace", spec := "fnExactFirstRace", apart := false }
def FnExactFirstRaceSaid : Prop := fnExactFirstRaceRow.holds Try.pinned (OpenSpec.ofChange fnExactFirstRaceSpec)

/-- ITS FALSE NEIGHBOUR: 'it returns false'. Refute it at one input. -/
def fnExactFirstRaceWrong : ChangeSpec := { name := "fnExactFirstRace", fn := fun _ => fun
  | [d] => { results := [.lit (.bool false)], args := [d] }
  | _ => none }
def FnExactFirstRaceWrongFalsely : Prop := fnExactFirstRaceRow.holds Try.pinned (OpenSpec.ofChange fnExactFirstRaceWrong)

/-- 'laws.FnExactFastRace': WHATEVER THE INPUT: true; the input reads as it did. -/
def fnExactFastRaceSpec : ChangeSpec := { name := "fnExactFastRace", fn := fun _ => fun
  | [d] => { results := [.lit (.bool true)], args := [d] }
  | _ => none }
def fnExactFastRaceRow : OpenClaim := { program := "ytgfnejojjjlloaa", sum := "1c5af405d995f7291fe1bcb2f4d419240635844b6de44615bf73d8a627aed9ee", func := "loop.example/g00696/laws.FnExactFastRace", spec := "fnExactFastRace", apart := false }
def FnExactFastRaceSaid : Prop := fnExactFastRaceRow.holds Try.pinned (OpenSpec.ofChange fnExactFastRaceSpec)

/-- ITS FALSE NEIGHBOUR: 'it returns false'. Refute it at one input. -/
def fnExactFastRaceWrong : ChangeSpec := { name := "fnExactFastRace", fn := fun _ => fun
  | [d] => { results := [.lit (.bool false)], args := [d] }
  | _ => none }
def FnExactFastRaceWrongFalsely : Prop := fnExactFastRaceRow.holds Try.pinned (OpenSpec.ofChange fnExactFastRaceWrong)

/-- 'laws.FnExactRacyCells': WHATEVER THE INPUT: true; the input reads as it did. -/
def fnExactRacyCellsSpec : ChangeSpec := { name := "fnExactRacyCells", fn := fun _ => fun
  | [d] => { results := [.lit (.bool true)], args := [d] }
  | _ => none }
def fnExactRacyCellsRow : OpenClaim := { program := "ytgfnejojjjlloaa", sum := "1c5af405d995f7291fe1bcb2f4d419240635844b6de44615bf73d8a627aed9ee", func := "loop.example/g00696/laws.FnExactRacyCells", spec := "fnExactRacyCells", recurses := true, apart := false }
def FnExactRacyCellsSaid : Prop := fnExactRacyCellsRow.holds Try.pinned (OpenSpec.ofChange fnExactRacyCellsSpec)

/-- ITS FALSE NEIGHBOUR: 'it returns false'. Refute it at one input. -/
def fnExactRacyCellsWrong : ChangeSpec := { name := "fnExactRacyCells", fn := fun _ => fun
  | [d] => { results := [.lit (.bool false)], args := [d] }
  | _ => none }
def FnExactRacyCellsWrongFalsely : Prop := fnExactRacyCellsRow.holds Try.pinned (OpenSpec.ofChange fnExactRacyCellsWrong)

/-- 'laws.FnExactLocksHeld': WHATEVER THE INPUT: true; the input reads as it did. -/
def fnExactLocksHeldSpec : ChangeSpec := { name := "fnExactLocksHeld", fn := fun _ => fun
  | [d1, d2] => { results := [.lit (.bool true)], args := [d1, d2] }
  | _ => none }
def fnExactLocksHeldRow : OpenClaim := { program := "ytgfnejojjjlloaa", sum := "1c5af405d995f7291fe1bcb2f4d419240635844b6de44615bf73d8a627aed9ee", func := "loop.example/g00696/laws.FnExactLocksHeld", spec := "fnExactLocksHeld", recurses := true, apart := false }
def FnExactLocksHeldSaid : Prop := fnExactLocksHeldRow.holds Try.pinned (OpenSpec.ofChange fnExactLocksHeldSpec)

/-- ITS FALSE NEIGHBOUR: 'it returns false'. Refute it at one input. -/
def fnExactLocksHeldWrong : ChangeSpec := { name := "fnExactLocksHeld", fn := fun _ => fun
  | [d1, d2] => { results := [.lit (.bool false)], args := [d1, d2] }
  | _ => none }
def FnExactLocksHeldWrongFalsely : Prop := fnExactLocksHeldRow.holds Try.pinned (OpenSpec.ofChange fnExactLocksHeldWrong)

/-- 'laws.FnExactSharedLocks': WHATEVER THE INPUT: true; the input reads as it did. -/
def fnExactSharedLocksSpec : ChangeSpec := { name := "fnExactSharedLocks", fn := fun _ => fun
  | [d] => { results := [.lit (.bool true)], args := [d] }
  | _ => none }
def fnExactSharedLocksRow : OpenClaim := { program := "ytgfnejojjjlloaa", sum := "1c5af405d995f7291fe1bcb2f4d419240635844b6de44615bf73d8a627aed9ee", func := "loop.example/g00696/laws.FnExactSharedLocks", spec := "fnExactSharedLocks", unfollowed := true, recurses := true, apart := false }
def FnExactSharedLocksSaid : Prop := fnExactSharedLocksRow.holds Try.pinned (OpenSpec.ofChange fnExactSharedLocksSpec)

/-- ITS FALSE NEIGHBOUR: 'it returns false'. Refute it at one input. -/
def fnExactSharedLocksWrong : ChangeSpec := { name := "fnExactSharedLocks", fn := fun _ => fun
  | [d] => { results := [.lit (.bool false)], args := [d] }
  | _ => none }
def FnExactSharedLocksWrongFalsely : Prop := fnExactSharedLocksRow.holds Try.pinned (OpenSpec.ofChange fnExactSharedLocksWrong)

/- THE SECOND FORM. 'bulk': how many values and letters a reading holds, each counted each time it is reached (what is shared counts as often as it is met; a slice's spare places count too). A statement '..UptoSaid' is the law's where the arguments, and the package variables that the reading takes, are together of bulk at most 1048576: NARROWER than '..Said'. Prove '..Said' where nothing that the law and all that it calls make is longer than what came in: it says more and counts as full. Else prove '..UptoSaid'. A law counts once. -/
mutual
def uptoBulk {H : Type} : DataW H → Nat
  | .lit (.string bytes) => bytes.length + 1
  | .lit _ => 1
  | .nil => 1
  | .ptr d => uptoBulk d + 1
  | .slice elems spare => uptoBulkAll elems + uptoBulkAll spare + 1
  | .agg parts => uptoBulkAll parts + 1
  | .iface _ d => uptoBulk d + 1
  | .map entries => uptoBulkEntries entries + 1
  | .held _ => 1
def uptoBulkAll {H : Type} : List (DataW H) → Nat
  | [] => 0
  | d :: r => uptoBulk d + uptoBulkAll r
def uptoBulkEntries {H : Type} : List (Lit × DataW H) → Nat
  | [] => 0
  | x :: r => uptoBulkEntry x + uptoBulkEntries r
def uptoBulkEntry {H : Type} : Lit × DataW H → Nat
  | (.string bytes, d) => bytes.length + uptoBulk d + 1
  | (_, d) => uptoBulk d + 1
 end
def uptoSmall : (H : Type) → List (DataW H) → Bool := fun _ ds => decide (uptoBulkAll ds ≤ 1048576)
def OpenSpec.upto (s : _root_.Go.ChangeSpec) : _root_.Go.OpenSpec := { _root_.Go.OpenSpec.ofChange s with cond := some uptoSmall }

/-- 'laws.FnExactRacesIn', WHERE WHAT IT READS IS OF BULK AT MOST 1048576: true; the input reads as it did. -/
def fnExactRacesInUptoRow : OpenClaim := { program := "ytgfnejojjjlloaa", sum := "1c5af405d995f7291fe1bcb2f4d419240635844b6de44615bf73d8a627aed9ee", func := "loop.example/g00696/laws.FnExactRacesIn", spec := "fnExactRacesIn", apart := false, narrowed := true }
def FnExactRacesInUptoSaid : Prop := fnExactRacesInUptoRow.holds Try.pinned (OpenSpec.upto fnExactRacesInSpec)

/-- 'laws.FnExactFirstRace', WHERE WHAT IT READS IS OF BULK AT MOST 1048576: true; the input reads as it did. -/
def fnExactFirstRaceUptoRow : OpenClaim := { program := "ytgfnejojjjlloaa", sum := "1c5af405d995f7291fe1bcb2f4d419240635844b6de44615bf73d8a627aed9ee", func := "loop.example/g00696/laws.FnExactFirstRace", spec := "fnExactFirstRace", apart := false, narrowed := true }
def FnExactFirstRaceUptoSaid : Prop := fnExactFirstRaceUptoRow.holds Try.pinned (OpenSpec.upto fnExactFirstRaceSpec)

/-- 'laws.FnExactFastRace', WHERE WHAT IT READS IS OF BULK AT MOST 1048576: true; the input reads as it did. -/
def fnExactFastRaceUptoRow : OpenClaim := { program := "ytgfnejojjjlloaa", sum := "1c5af405d995f7291fe1bcb2f4d419240635844b6de44615bf73d8a627aed9ee", func := "loop.example/g00696/laws.FnExactFastRace", spec := "fnExactFastRace", apart := false, narrowed := true }
def FnExactFastRaceUptoSaid : Prop := fnExactFastRaceUptoRow.holds Try.pinned (OpenSpec.upto fnExactFastRaceSpec)

/-- 'laws.FnExactRacyCells', WHERE WHAT IT READS IS OF BULK AT MOST 1048576: true; the input reads as it did. -/
def fnExactRacyCellsUptoRow : OpenClaim := { program := "ytgfnejojjjlloaa", sum := "1c5af405d995f7291fe1bcb2f4d419240635844b6de44615bf73d8a627aed9ee", func := "loop.example/g00696/laws.FnExactRacyCells", spec := "fnExactRacyCells", recurses := true, apart := false, narrowed := true }
def FnExactRacyCellsUptoSaid : Prop := fnExactRacyCellsUptoRow.holds Try.pinned (OpenSpec.upto fnExactRacyCellsSpec)

/-- 'laws.FnExactLocksHeld', WHERE WHAT IT READS IS OF BULK AT MOST 1048576: true; the input reads as it did. -/
def fnExactLocksHeldUptoRow : OpenClaim := { program := "ytgfnejojjjlloaa", sum := "1c5af405d995f7291fe1bcb2f4d419240635844b6de44615bf73d8a627aed9ee", func := "loop.example/g00696/laws.FnExactLocksHeld", spec := "fnExactLocksHeld", recurses := true, apart := false, narrowed := true }
def FnExactLocksHeldUptoSaid : Prop := fnExactLocksHeldUptoRow.holds Try.pinned (OpenSpec.upto fnExactLocksHeldSpec)

/-- 'laws.FnExactSharedLocks', WHERE WHAT IT READS IS OF BULK AT MOST 1048576: true; the input reads as it did. -/
def fnExactSharedLocksUptoRow : OpenClaim := { program := "ytgfnejojjjlloaa", sum := "1c5af405d995f7291fe1bcb2f4d419240635844b6de44615bf73d8a627aed9ee", func := "loop.example/g00696/laws.FnExactSharedLocks", spec := "fnExactSharedLocks", unfollowed := true, recurses := true, apart := false, narrowed := true }
def FnExactSharedLocksUptoSaid : Prop := fnExactSharedLocksUptoRow.holds Try.pinned (OpenSpec.upto fnExactSharedLocksSpec)

end Rows
end Go.Proofs.Ytgfnejojjjlloaa
