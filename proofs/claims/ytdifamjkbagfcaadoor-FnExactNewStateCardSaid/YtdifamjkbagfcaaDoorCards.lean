/-
  DERIVED. GIVEN WITH THE SEED: THE CARDS: each row of YtdifamjkbagfcaaDoorRows.lean that lists a variable, with what it lists TIED to the program's text (the seventh form; the later family's looks); each row that meets fmt, with fmt's text TOLD by the authors' own Lean function (tested against real Go, not proved from fmt's source: count such statements apart). THE CARD IS WHAT COUNTS. Prove the row's statement (the work); the ties are given (YtdifamjkbagfcaaDoorTie.lean); close each card by the builder's one call (the guide's Derived/Test/ToyasCard.lean, 'card_holds'). Laid BY PROGRAM, IN A SANDBOX (cutbox-door.mjs). By AI agents, Wed Nov 11 2026. No macro, syntax, notation, axiom, sorry.
-/
import Derived.Test.YtdifamjkbagfcaaDoorRows
import GoSem.ClaimSeven
namespace Go.Proofs.YtdifamjkbagfcaaDoor
namespace Rows

/-- THE TIED CARD OF 'laws.FnExactProgText'. -/
def fnExactProgTextCard : Claim7 := { stood := { row := fnExactProgTextRow, standIns := [], harness := (true, "18cfb94c2b17cbbd420a77cdc0042dcc839bd00453b6632baca2ccf441b85dde"), looks := false }, kinds := [], alts := [], laidByText := true, laidKinds := [.data, .data, .data, .data], laidTests := true, laidLooks := .later }
def FnExactProgTextCardSaid : Prop := Claim7.holds Tryd.pinned (.plain (OpenSpec.ofChange fnExactProgTextSpec)) fnExactProgTextCard

/-- THE TIED CARD OF 'laws.FnExactSpawnsIn'. -/
def fnExactSpawnsInCard : Claim7 := { stood := { row := fnExactSpawnsInRow, standIns := [], harness := (true, "18cfb94c2b17cbbd420a77cdc0042dcc839bd00453b6632baca2ccf441b85dde"), looks := false }, kinds := [], alts := [], laidByText := true, laidKinds := [.data], laidTests := true, laidLooks := .later }
def FnExactSpawnsInCardSaid : Prop := Claim7.holds Tryd.pinned (.plain (OpenSpec.ofChange fnExactSpawnsInSpec)) fnExactSpawnsInCard

/-- THE TIED CARD OF 'laws.FnExactNewState'. -/
def fnExactNewStateCard : Claim7 := { stood := { row := fnExactNewStateRow, standIns := [], harness := (true, "18cfb94c2b17cbbd420a77cdc0042dcc839bd00453b6632baca2ccf441b85dde"), looks := false }, kinds := [], alts := [], laidByText := true, laidKinds := [.data], laidTests := true, laidLooks := .later }
def FnExactNewStateCardSaid : Prop := Claim7.holds Tryd.pinned (.plain (OpenSpec.ofChange fnExactNewStateSpec)) fnExactNewStateCard

/-- THE TIED CARD OF 'laws.FnExactEnabledIn'. -/
def fnExactEnabledInCard : Claim7 := { stood := { row := fnExactEnabledInRow, standIns := [], harness := (true, "18cfb94c2b17cbbd420a77cdc0042dcc839bd00453b6632baca2ccf441b85dde"), looks := false }, kinds := [], alts := [], laidByText := true, laidKinds := [.data], laidTests := true, laidLooks := .later }
def FnExactEnabledInCardSaid : Prop := Claim7.holds Tryd.pinned (.plain (OpenSpec.ofChange fnExactEnabledInSpec)) fnExactEnabledInCard

/-- THE TIED CARD OF 'laws.FnExactWaitsFor'. -/
def fnExactWaitsForCard : Claim7 := { stood := { row := fnExactWaitsForRow, standIns := [], harness := (true, "18cfb94c2b17cbbd420a77cdc0042dcc839bd00453b6632baca2ccf441b85dde"), looks := false }, kinds := [], alts := [], laidByText := true, laidKinds := [.data], laidTests := true, laidLooks := .later }
def FnExactWaitsForCardSaid : Prop := Claim7.holds Tryd.pinned (.plain (OpenSpec.ofChange fnExactWaitsForSpec)) fnExactWaitsForCard

/-- THE SECOND FORM's CARD OF 'laws.FnExactProgText'. -/
def fnExactProgTextUptoCard : Claim7 := { stood := { row := fnExactProgTextUptoRow, standIns := [], harness := (true, "18cfb94c2b17cbbd420a77cdc0042dcc839bd00453b6632baca2ccf441b85dde"), looks := false }, kinds := [], alts := [], laidByText := true, laidKinds := [.data, .data, .data, .data], laidTests := true, laidLooks := .later }
def FnExactProgTextUptoCardSaid : Prop := Claim7.holds Tryd.pinned (.plain (OpenSpec.upto fnExactProgTextSpec)) fnExactProgTextUptoCard

/-- THE SECOND FORM's CARD OF 'laws.FnExactSpawnsIn'. -/
def fnExactSpawnsInUptoCard : Claim7 := { stood := { row := fnExactSpawnsInUptoRow, standIns := [], harness := (true, "18cfb94c2b17cbbd420a77cdc0042dcc839bd00453b6632baca2ccf441b85dde"), looks := false }, kinds := [], alts := [], laidByText := true, laidKinds := [.data], laidTests := true, laidLooks := .later }
def FnExactSpawnsInUptoCardSaid : Prop := Claim7.holds Tryd.pinned (.plain (OpenSpec.upto fnExactSpawnsInSpec)) fnExactSpawnsInUptoCard

/-- THE SECOND FORM's CARD OF 'laws.FnExactNewState'. -/
def fnExactNewStateUptoCard : Claim7 := { stood := { row := fnExactNewStateUptoRow, standIns := [], harness := (true, "18cfb94c2b17cbbd420a77cdc0042dcc839bd00453b6632baca2ccf441b85dde"), looks := false }, kinds := [], alts := [], laidByText := true, laidKinds := [.data], laidTests := true, laidLooks := .later }
def FnExactNewStateUptoCardSaid : Prop := Claim7.holds Tryd.pinned (.plain (OpenSpec.upto fnExactNewStateSpec)) fnExactNewStateUptoCard

/-- THE SECOND FORM's CARD OF 'laws.FnExactEnabledIn'. -/
def fnExactEnabledInUptoCard : Claim7 := { stood := { row := fnExactEnabledInUptoRow, standIns := [], harness := (true, "18cfb94c2b17cbbd420a77cdc0042dcc839bd00453b6632baca2ccf441b85dde"), looks := false }, kinds := [], alts := [], laidByText := true, laidKinds := [.data], laidTests := true, laidLooks := .later }
def FnExactEnabledInUptoCardSaid : Prop := Claim7.holds Tryd.pinned (.plain (OpenSpec.upto fnExactEnabledInSpec)) fnExactEnabledInUptoCard

/-- THE SECOND FORM's CARD OF 'laws.FnExactWaitsFor'. -/
def fnExactWaitsForUptoCard : Claim7 := { stood := { row := fnExactWaitsForUptoRow, standIns := [], harness := (true, "18cfb94c2b17cbbd420a77cdc0042dcc839bd00453b6632baca2ccf441b85dde"), looks := false }, kinds := [], alts := [], laidByText := true, laidKinds := [.data], laidTests := true, laidLooks := .later }
def FnExactWaitsForUptoCardSaid : Prop := Claim7.holds Tryd.pinned (.plain (OpenSpec.upto fnExactWaitsForSpec)) fnExactWaitsForUptoCard
end Rows
end Go.Proofs.YtdifamjkbagfcaaDoor
