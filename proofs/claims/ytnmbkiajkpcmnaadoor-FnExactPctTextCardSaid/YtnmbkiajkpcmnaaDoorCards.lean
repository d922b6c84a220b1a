/-
  DERIVED. GIVEN WITH THE SEED: THE CARDS: each row of YtnmbkiajkpcmnaaDoorRows.lean that lists a variable, with what it lists TIED to the program's text (the seventh form; the later family's looks); each row that meets fmt, with fmt's text TOLD by the authors' own Lean function (tested against real Go, not proved from fmt's source: count such statements apart). THE CARD IS WHAT COUNTS. Prove the row's statement (the work); the ties are given (YtnmbkiajkpcmnaaDoorTie.lean); close each card by the builder's one call (the guide's Derived/Test/ToyasCard.lean, 'card_holds'). Laid BY PROGRAM, IN A SANDBOX (cutbox-door.mjs). By AI agents, Wed Nov 11 2026. No macro, syntax, notation, axiom, sorry.
-/
import Derived.Test.YtnmbkiajkpcmnaaDoorRows
import GoSem.ClaimSeven
namespace Go.Proofs.YtnmbkiajkpcmnaaDoor
namespace Rows

/-- THE TIED CARD OF 'laws.FnExactPctText'. -/
def fnExactPctTextCard : Claim7 := { stood := { row := fnExactPctTextRow, standIns := [], harness := (true, "a54dc25209c4e2ddc44558ff9108c0f34cc1974634b09a7dc09a8c6445b003b1"), looks := true }, kinds := [], alts := [], laidByText := true, laidKinds := [.data, .data, .data], laidTests := true, laidLooks := .later }
def FnExactPctTextCardSaid : Prop := Claim7.holds Tryd.pinned (.plain (OpenSpec.ofChange fnExactPctTextSpec)) fnExactPctTextCard

/-- THE TIED CARD OF 'laws.FnExactReadPct'. -/
def fnExactReadPctCard : Claim7 := { stood := { row := fnExactReadPctRow, standIns := [], harness := (true, "a54dc25209c4e2ddc44558ff9108c0f34cc1974634b09a7dc09a8c6445b003b1"), looks := true }, kinds := [], alts := [], laidByText := true, laidKinds := [.data, .data, .data, .data, .sentinel, .sentinel, .pinned], laidTests := true, laidLooks := .later }
def FnExactReadPctCardSaid : Prop := Claim7.holds Tryd.pinned (.plain (OpenSpec.ofChange fnExactReadPctSpec)) fnExactReadPctCard

/-- THE SECOND FORM's CARD OF 'laws.FnExactPctText'. -/
def fnExactPctTextUptoCard : Claim7 := { stood := { row := fnExactPctTextUptoRow, standIns := [], harness := (true, "a54dc25209c4e2ddc44558ff9108c0f34cc1974634b09a7dc09a8c6445b003b1"), looks := true }, kinds := [], alts := [], laidByText := true, laidKinds := [.data, .data, .data], laidTests := true, laidLooks := .later }
def FnExactPctTextUptoCardSaid : Prop := Claim7.holds Tryd.pinned (.plain (OpenSpec.upto fnExactPctTextSpec)) fnExactPctTextUptoCard

/-- THE SECOND FORM's CARD OF 'laws.FnExactReadPct'. -/
def fnExactReadPctUptoCard : Claim7 := { stood := { row := fnExactReadPctUptoRow, standIns := [], harness := (true, "a54dc25209c4e2ddc44558ff9108c0f34cc1974634b09a7dc09a8c6445b003b1"), looks := true }, kinds := [], alts := [], laidByText := true, laidKinds := [.data, .data, .data, .data, .sentinel, .sentinel, .pinned], laidTests := true, laidLooks := .later }
def FnExactReadPctUptoCardSaid : Prop := Claim7.holds Tryd.pinned (.plain (OpenSpec.upto fnExactReadPctSpec)) fnExactReadPctUptoCard
end Rows
end Go.Proofs.YtnmbkiajkpcmnaaDoor
