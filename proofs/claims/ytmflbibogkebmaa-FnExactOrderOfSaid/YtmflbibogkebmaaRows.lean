/-
  No cell of these rows narrows 'for every input' (looked for: loops, veiled, ifaces, maps, wideKeys, modest, calm, conditions, laid).
  DERIVED. THE GIVEN ROWS OF THIS SEAT. 6 by the template 'for every input the law returns true; each argument reads behind the call as it read before'; 0 by the template 'total and deterministic' (their statements: YtmflbibogkebmaaTotals.lean).
  GIVEN WITH THE SEED: the statements are not yours to turn. If you find one false, say at which input.
  Laid BY PROGRAM, IN A SANDBOX (cutbox-rows.mjs): the forced cells as the released guide's own fill.sh prints them over the translation c63e5f4276721286… (all of the seat's roots in one cut). By AI agents, Wed Nov 11 2026. No macro, syntax, notation, axiom, sorry.
-/
import Derived.Test.YtmflbibogkebmaaChecked
import GoSem.Claim
import GoSem.ClaimJoined
import GoSem.ClaimMapViews
import Derived.JoinedTies
import Derived.KernelRfl
namespace Go.Proofs.Ytmflbibogkebmaa
/- THE CELL 'sum', in the pinned program and in every row, IS THE sha256 OF THE DUMP (.gsa) THAT YtmflbibogkebmaaProg.lean LOADS. Nothing in Lean hashes anything: it is a label: what it is worth is what the hold of that sum in a sandbox is worth. -/
noncomputable def Try.pinned : Pinned := { name := "ytmflbibogkebmaa", sum := "c63e5f4276721286a7fa093c66248b194d1af34b1c1331f580da37b8e0a92859", checked := Try.checked }
namespace Rows
def none {H : Type} : Left H := { results := [], args := [] }

/-- 'laws.FnExactLocksHeld': WHATEVER THE INPUT: true; the input reads as it did. -/
def fnExactLocksHeldSpec : ChangeSpec := { name := "fnExactLocksHeld", fn := fun _ => fun
  | [d1, d2] => { results := [.lit (.bool true)], args := [d1, d2] }
  | _ => none }
def fnExactLocksHeldRow : OpenClaim := { program := "ytmflbibogkebmaa", sum := "c63e5f4276721286a7fa093c66248b194d1af34b1c1331f580da37b8e0a92859", func := "loop.example/g00696/laws.FnExactLocksHeld", spec := "fnExactLocksHeld", recurses := true, plainKeys := false, apart := false }
def FnExactLocksHeldSaid : Prop := fnExactLocksHeldRow.holds Try.pinned (OpenSpec.ofChange fnExactLocksHeldSpec)

/-- ITS FALSE NEIGHBOUR: 'it returns false'. Refute it at one input. -/
def fnExactLocksHeldWrong : ChangeSpec := { name := "fnExactLocksHeld", fn := fun _ => fun
  | [d1, d2] => { results := [.lit (.bool false)], args := [d1, d2] }
  | _ => none }
def FnExactLocksHeldWrongFalsely : Prop := fnExactLocksHeldRow.holds Try.pinned (OpenSpec.ofChange fnExactLocksHeldWrong)

/-- 'laws.FnExactSharedLocks': WHATEVER THE INPUT: true; the input reads as it did. -/
def fnExactSharedLocksSpec : ChangeSpec := { name := "fnExactSharedLocks", fn := fun _ => fun
  | [d] => { results := [.lit (.bool true)], args := [d] }
  | _ => none }
def fnExactSharedLocksRow : OpenClaim := { program := "ytmflbibogkebmaa", sum := "c63e5f4276721286a7fa093c66248b194d1af34b1c1331f580da37b8e0a92859", func := "loop.example/g00696/laws.FnExactSharedLocks", spec := "fnExactSharedLocks", unfollowed := true, recurses := true, plainKeys := false, apart := false }
def FnExactSharedLocksSaid : Prop := fnExactSharedLocksRow.holds Try.pinned (OpenSpec.ofChange fnExactSharedLocksSpec)

/-- ITS FALSE NEIGHBOUR: 'it returns false'. Refute it at one input. -/
def fnExactSharedLocksWrong : ChangeSpec := { name := "fnExactSharedLocks", fn := fun _ => fun
  | [d] => { results := [.lit (.bool false)], args := [d] }
  | _ => none }
def FnExactSharedLocksWrongFalsely : Prop := fnExactSharedLocksRow.holds Try.pinned (OpenSpec.ofChange fnExactSharedLocksWrong)

/-- 'laws.FnExactUndersIn': WHATEVER THE INPUT: true; the input reads as it did. -/
def fnExactUndersInSpec : ChangeSpec := { name := "fnExactUndersIn", fn := fun _ => fun
  | [d] => { results := [.lit (.bool true)], args := [d] }
  | _ => none }
def fnExactUndersInRow : OpenClaim := { program := "ytmflbibogkebmaa", sum := "c63e5f4276721286a7fa093c66248b194d1af34b1c1331f580da37b8e0a92859", func := "loop.example/g00696/laws.FnExactUndersIn", spec := "fnExactUndersIn", recurses := true, plainKeys := false, apart := false }
def FnExactUndersInSaid : Prop := fnExactUndersInRow.holds Try.pinned (OpenSpec.ofChange fnExactUndersInSpec)

/-- ITS FALSE NEIGHBOUR: 'it returns false'. Refute it at one input. -/
def fnExactUndersInWrong : ChangeSpec := { name := "fnExactUndersIn", fn := fun _ => fun
  | [d] => { results := [.lit (.bool false)], args := [d] }
  | _ => none }
def FnExactUndersInWrongFalsely : Prop := fnExactUndersInRow.holds Try.pinned (OpenSpec.ofChange fnExactUndersInWrong)

/-- 'laws.FnExactLockPairs': WHATEVER THE INPUT: true; the input reads as it did. -/
def fnExactLockPairsSpec : ChangeSpec := { name := "fnExactLockPairs", fn := fun _ => fun
  | [d] => { results := [.lit (.bool true)], args := [d] }
  | _ => none }
def fnExactLockPairsRow : OpenClaim := { program := "ytmflbibogkebmaa", sum := "c63e5f4276721286a7fa093c66248b194d1af34b1c1331f580da37b8e0a92859", func := "loop.example/g00696/laws.FnExactLockPairs", spec := "fnExactLockPairs", unfollowed := true, recurses := true, plainKeys := false, apart := false }
def FnExactLockPairsSaid : Prop := fnExactLockPairsRow.holds Try.pinned (OpenSpec.ofChange fnExactLockPairsSpec)

/-- ITS FALSE NEIGHBOUR: 'it returns false'. Refute it at one input. -/
def fnExactLockPairsWrong : ChangeSpec := { name := "fnExactLockPairs", fn := fun _ => fun
  | [d] => { results := [.lit (.bool false)], args := [d] }
  | _ => none }
def FnExactLockPairsWrongFalsely : Prop := fnExactLockPairsRow.holds Try.pinned (OpenSpec.ofChange fnExactLockPairsWrong)

/-- 'laws.FnExactOrderOf': WHATEVER THE INPUT: true; the input reads as it did. -/
def fnExactOrderOfSpec : ChangeSpec := { name := "fnExactOrderOf", fn := fun _ => fun
  | [d] => { results := [.lit (.bool true)], args := [d] }
  | _ => none }
def fnExactOrderOfRow : OpenClaim := { program := "ytmflbibogkebmaa", sum := "c63e5f4276721286a7fa093c66248b194d1af34b1c1331f580da37b8e0a92859", func := "loop.example/g00696/laws.FnExactOrderOf", spec := "fnExactOrderOf", unfollowed := true, recurses := true, plainKeys := false, apart := false }
def FnExactOrderOfSaid : Prop := fnExactOrderOfRow.holds Try.pinned (OpenSpec.ofChange fnExactOrderOfSpec)

/-- ITS FALSE NEIGHBOUR: 'it returns false'. Refute it at one input. -/
def fnExactOrderOfWrong : ChangeSpec := { name := "fnExactOrderOf", fn := fun _ => fun
  | [d] => { results := [.lit (.bool false)], args := [d] }
  | _ => none }
def FnExactOrderOfWrongFalsely : Prop := fnExactOrderOfRow.holds Try.pinned (OpenSpec.ofChange fnExactOrderOfWrong)

/-- 'laws.FnExactWarnsGuarded': WHATEVER THE INPUT: true; the input reads as it did. -/
def fnExactWarnsGuardedSpec : ChangeSpec := { name := "fnExactWarnsGuarded", fn := fun _ => fun
  | [d] => { results := [.lit (.bool true)], args := [d] }
  | _ => none }
def fnExactWarnsGuardedRow : OpenClaim := { program := "ytmflbibogkebmaa", sum := "c63e5f4276721286a7fa093c66248b194d1af34b1c1331f580da37b8e0a92859", func := "loop.example/g00696/laws.FnExactWarnsGuarded", spec := "fnExactWarnsGuarded", unfollowed := true, recurses := true, plainKeys := false, apart := false }
def FnExactWarnsGuardedSaid : Prop := fnExactWarnsGuardedRow.holds Try.pinned (OpenSpec.ofChange fnExactWarnsGuardedSpec)

/-- ITS FALSE NEIGHBOUR: 'it returns false'. Refute it at one input. -/
def fnExactWarnsGuardedWrong : ChangeSpec := { name := "fnExactWarnsGuarded", fn := fun _ => fun
  | [d] => { results := [.lit (.bool false)], args := [d] }
  | _ => none }
def FnExactWarnsGuardedWrongFalsely : Prop := fnExactWarnsGuardedRow.holds Try.pinned (OpenSpec.ofChange fnExactWarnsGuardedWrong)

/- THE SECOND FORM. 'bulk': how many values and letters a reading holds, each counted each time it is reached (what is shared counts as often as it is met; a slice's spare places count too). A statement '..UptoSaid' is the law's where the arguments, and the package variables that the reading takes, are together of bulk at most 1048576: NARROWER than '..Said'. Prove '..Said' where nothing that the law and all that it calls make is longer than what came in: it says more and counts as full. Else prove '..UptoSaid'. A law counts once. -/
mutual
def uptoBulk {H : Type} : DataW H → Nat
  | .lit (.string bytes) => bytes.length + 1
  | .lit _ => 1
  | .nil => 1
  | .ptr d => uptoBulk d + 1
  | .slice elems spare => uptoBulkAll elems + uptoBulkAll spare + 1
  | .agg parts => uptoBulkAll parts + 1
  | .iface _ d => uptoBulk d + 1
  | .map entries => uptoBulkEntries entries + 1
  | .held _ => 1
def uptoBulkAll {H : Type} : List (DataW H) → Nat
  | [] => 0
  | d :: r => uptoBulk d + uptoBulkAll r
def uptoBulkEntries {H : Type} : List (Lit × DataW H) → Nat
  | [] => 0
  | x :: r => uptoBulkEntry x + uptoBulkEntries r
def uptoBulkEntry {H : Type} : Lit × DataW H → Nat
  | (.string bytes, d) => bytes.length + uptoBulk d + 1
  | (_, d) => uptoBulk d + 1
 end
def uptoSmall : (H : Type) → List (DataW H) → Bool := fun _ ds => decide (uptoBulkAll ds ≤ 1048576)
def OpenSpec.upto (s : _root_.Go.ChangeSpec) : _root_.Go.OpenSpec := { _root_.Go.OpenSpec.ofChange s with cond := some uptoSmall }

/-- 'laws.FnExactLocksHeld', WHERE WHAT IT READS IS OF BULK AT MOST 1048576: true; the input reads as it did. -/
def fnExactLocksHeldUptoRow : OpenClaim := { program := "ytmflbibogkebmaa", sum := "c63e5f4276721286a7fa093c66248b194d1af34b1c1331f580da37b8e0a92859", func := "loop.example/g00696/laws.FnExactLocksHeld", spec := "fnExactLocksHeld", recurses := true, plainKeys := false, apart := false, narrowed := true }
def FnExactLocksHeldUptoSaid : Prop := fnExactLocksHeldUptoRow.holds Try.pinned (OpenSpec.upto fnExactLocksHeldSpec)

/-- 'laws.FnExactSharedLocks', WHERE WHAT IT READS IS OF BULK AT MOST 1048576: true; the input reads as it did. -/
def fnExactSharedLocksUptoRow : OpenClaim := { program := "ytmflbibogkebmaa", sum := "c63e5f4276721286a7fa093c66248b194d1af34b1c1331f580da37b8e0a92859", func := "loop.example/g00696/laws.FnExactSharedLocks", spec := "fnExactSharedLocks", unfollowed := true, recurses := true, plainKeys := false, apart := false, narrowed := true }
def FnExactSharedLocksUptoSaid : Prop := fnExactSharedLocksUptoRow.holds Try.pinned (OpenSpec.upto fnExactSharedLocksSpec)

/-- 'laws.FnExactUndersIn', WHERE WHAT IT READS IS OF BULK AT MOST 1048576: true; the input reads as it did. -/
def fnExactUndersInUptoRow : OpenClaim := { program := "ytmflbibogkebmaa", sum := "c63e5f4276721286a7fa093c66248b194d1af34b1c1331f580da37b8e0a92859", func := "loop.example/g00696/laws.FnExactUndersIn", spec := "fnExactUndersIn", recurses := true, plainKeys := false, apart := false, narrowed := true }
def FnExactUndersInUptoSaid : Prop := fnExactUndersInUptoRow.holds Try.pinned (OpenSpec.upto fnExactUndersInSpec)

/-- 'laws.FnExactLockPairs', WHERE WHAT IT READS IS OF BULK AT MOST 1048576: true; the input reads as it did. -/
def fnExactLockPairsUptoRow : OpenClaim := { program := "ytmflbibogkebmaa", sum := "c63e5f4276721286a7fa093c66248b194d1af34b1c1331f580da37b8e0a92859", func := "loop.example/g00696/laws.FnExactLockPairs", spec := "fnExactLockPairs", unfollowed := true, recurses := true, plainKeys := false, apart := false, narrowed := true }
def FnExactLockPairsUptoSaid : Prop := fnExactLockPairsUptoRow.holds Try.pinned (OpenSpec.upto fnExactLockPairsSpec)

/-- 'laws.FnExactOrderOf', WHERE WHAT IT READS IS OF BULK AT MOST 1048576: true; the input reads as it did. -/
def fnExactOrderOfUptoRow : OpenClaim := { program := "ytmflbibogkebmaa", sum := "c63e5f4276721286a7fa093c66248b194d1af34b1c1331f580da37b8e0a92859", func := "loop.example/g00696/laws.FnExactOrderOf", spec := "fnExactOrderOf", unfollowed := true, recurses := true, plainKeys := false, apart := false, narrowed := true }
def FnExactOrderOfUptoSaid : Prop := fnExactOrderOfUptoRow.holds Try.pinned (OpenSpec.upto fnExactOrderOfSpec)

/-- 'laws.FnExactWarnsGuarded', WHERE WHAT IT READS IS OF BULK AT MOST 1048576: true; the input reads as it did. -/
def fnExactWarnsGuardedUptoRow : OpenClaim := { program := "ytmflbibogkebmaa", sum := "c63e5f4276721286a7fa093c66248b194d1af34b1c1331f580da37b8e0a92859", func := "loop.example/g00696/laws.FnExactWarnsGuarded", spec := "fnExactWarnsGuarded", unfollowed := true, recurses := true, plainKeys := false, apart := false, narrowed := true }
def FnExactWarnsGuardedUptoSaid : Prop := fnExactWarnsGuardedUptoRow.holds Try.pinned (OpenSpec.upto fnExactWarnsGuardedSpec)

end Rows
end Go.Proofs.Ytmflbibogkebmaa
