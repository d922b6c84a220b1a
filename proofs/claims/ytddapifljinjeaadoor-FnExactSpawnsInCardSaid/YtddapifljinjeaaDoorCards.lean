/-
  DERIVED. GIVEN WITH THE SEED: THE CARDS: each row of YtddapifljinjeaaDoorRows.lean that lists a variable, with what it lists TIED to the program's text (the seventh form; the later family's looks); each row that meets fmt, with fmt's text TOLD by the authors' own Lean function (tested against real Go, not proved from fmt's source: count such statements apart). THE CARD IS WHAT COUNTS. Prove the row's statement (the work); the ties are given (YtddapifljinjeaaDoorTie.lean); close each card by the builder's one call (the guide's Derived/Test/ToyasCard.lean, 'card_holds'). Laid BY PROGRAM, IN A SANDBOX (cutbox-door.mjs). By AI agents, Wed Nov 11 2026. No macro, syntax, notation, axiom, sorry.
-/
import Derived.Test.YtddapifljinjeaaDoorRows
import GoSem.ClaimSeven
namespace Go.Proofs.YtddapifljinjeaaDoor
namespace Rows

/-- THE TIED CARD OF 'laws.FnExactSpawnsIn'. -/
def fnExactSpawnsInCard : Claim7 := { stood := { row := fnExactSpawnsInRow, standIns := [], harness := (true, "3255d23decd35d7ae0d0a59f02e5efbd0d9564481b253887876e48ad7109cfc1"), looks := false }, kinds := [], alts := [], laidByText := true, laidKinds := [.data], laidTests := true, laidLooks := .later }
def FnExactSpawnsInCardSaid : Prop := Claim7.holds Tryd.pinned (.plain (OpenSpec.ofChange fnExactSpawnsInSpec)) fnExactSpawnsInCard

/-- THE SECOND FORM's CARD OF 'laws.FnExactSpawnsIn'. -/
def fnExactSpawnsInUptoCard : Claim7 := { stood := { row := fnExactSpawnsInUptoRow, standIns := [], harness := (true, "3255d23decd35d7ae0d0a59f02e5efbd0d9564481b253887876e48ad7109cfc1"), looks := false }, kinds := [], alts := [], laidByText := true, laidKinds := [.data], laidTests := true, laidLooks := .later }
def FnExactSpawnsInUptoCardSaid : Prop := Claim7.holds Tryd.pinned (.plain (OpenSpec.upto fnExactSpawnsInSpec)) fnExactSpawnsInUptoCard
end Rows
end Go.Proofs.YtddapifljinjeaaDoor
