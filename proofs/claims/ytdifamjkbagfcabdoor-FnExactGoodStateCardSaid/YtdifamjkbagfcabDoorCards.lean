/-
  DERIVED. GIVEN WITH THE SEED: THE CARDS: each row of YtdifamjkbagfcabDoorRows.lean that lists a variable, with what it lists TIED to the program's text (the seventh form; the later family's looks); each row that meets fmt, with fmt's text TOLD by the authors' own Lean function (tested against real Go, not proved from fmt's source: count such statements apart). THE CARD IS WHAT COUNTS. Prove the row's statement (the work); the ties are given (YtdifamjkbagfcabDoorTie.lean); close each card by the builder's one call (the guide's Derived/Test/ToyasCard.lean, 'card_holds'). Laid BY PROGRAM, IN A SANDBOX (cutbox-door.mjs). By AI agents, Wed Nov 11 2026. No macro, syntax, notation, axiom, sorry.
-/
import Derived.Test.YtdifamjkbagfcabDoorRows
import GoSem.ClaimSeven
namespace Go.Proofs.YtdifamjkbagfcabDoor
namespace Rows

/-- THE TIED CARD OF 'laws.FnExactGoodState'. -/
def fnExactGoodStateCard : Claim7 := { stood := { row := fnExactGoodStateRow, standIns := [], harness := (true, "5504b7dea8dc758a4d69ef36f826d81e11d29b4cc376eb40043d4a14d6d0f99e"), looks := false }, kinds := [], alts := [], laidByText := true, laidKinds := [.data], laidTests := true, laidLooks := .later }
def FnExactGoodStateCardSaid : Prop := Claim7.holds Tryd.pinned (.plain (OpenSpec.ofChange fnExactGoodStateSpec)) fnExactGoodStateCard

/-- THE TIED CARD OF 'laws.FnCycles'. -/
def fnCyclesCard : Claim7 := { stood := { row := fnCyclesRow, standIns := [], harness := (true, "5504b7dea8dc758a4d69ef36f826d81e11d29b4cc376eb40043d4a14d6d0f99e"), looks := false }, kinds := [], alts := [], laidByText := true, laidKinds := [.data], laidTests := true, laidLooks := .later }
def FnCyclesCardSaid : Prop := Claim7.holds Tryd.pinned (.plain (OpenSpec.ofChange fnCyclesSpec)) fnCyclesCard

/-- THE SECOND FORM's CARD OF 'laws.FnExactGoodState'. -/
def fnExactGoodStateUptoCard : Claim7 := { stood := { row := fnExactGoodStateUptoRow, standIns := [], harness := (true, "5504b7dea8dc758a4d69ef36f826d81e11d29b4cc376eb40043d4a14d6d0f99e"), looks := false }, kinds := [], alts := [], laidByText := true, laidKinds := [.data], laidTests := true, laidLooks := .later }
def FnExactGoodStateUptoCardSaid : Prop := Claim7.holds Tryd.pinned (.plain (OpenSpec.upto fnExactGoodStateSpec)) fnExactGoodStateUptoCard

/-- THE SECOND FORM's CARD OF 'laws.FnCycles'. -/
def fnCyclesUptoCard : Claim7 := { stood := { row := fnCyclesUptoRow, standIns := [], harness := (true, "5504b7dea8dc758a4d69ef36f826d81e11d29b4cc376eb40043d4a14d6d0f99e"), looks := false }, kinds := [], alts := [], laidByText := true, laidKinds := [.data], laidTests := true, laidLooks := .later }
def FnCyclesUptoCardSaid : Prop := Claim7.holds Tryd.pinned (.plain (OpenSpec.upto fnCyclesSpec)) fnCyclesUptoCard
end Rows
end Go.Proofs.YtdifamjkbagfcabDoor
