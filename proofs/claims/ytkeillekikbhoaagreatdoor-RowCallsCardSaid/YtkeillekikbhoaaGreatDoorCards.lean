/-
  DERIVED. GIVEN WITH THE SEED: THE CARDS: each row of YtkeillekikbhoaaGreatDoorRows.lean that lists a variable, with what it lists TIED to the program's text (the seventh form; the later family's looks); each row that meets fmt, with fmt's text TOLD by the authors' own Lean function (tested against real Go, not proved from fmt's source: count such statements apart). THE CARD IS WHAT COUNTS. Prove the row's statement (the work); the ties are given (YtkeillekikbhoaaGreatDoorTie.lean); close each card by the builder's one call (the guide's Derived/Test/ToyasCard.lean, 'card_holds'). Laid BY PROGRAM, IN A SANDBOX (cutbox-door.mjs). By AI agents, Wed Nov 11 2026. No macro, syntax, notation, axiom, sorry.
-/
import Derived.Test.YtkeillekikbhoaaGreatDoorRows
import GoSem.ClaimSeven
namespace Go.Proofs.YtkeillekikbhoaaGreatDoor
namespace Rows

/-- THE TIED CARD OF 'copydesklaw08.RowNames'. -/
def rowNamesCard : Claim7 := { stood := { row := rowNamesRow, standIns := [], harness := (true, "f54f8990c35988ce06e033ff957fc8e7ace84b86f25789654432b23bdfbf9887"), looks := false }, kinds := [], alts := [], laidByText := true, laidKinds := [.data, .data, .data, .pinned], laidTests := true, laidLooks := .later }
def RowNamesCardSaid : Prop := Claim7.holds Tryz.pinned (.plain (OpenSpec.ofChange rowNamesSpec)) rowNamesCard

/-- THE TIED CARD OF 'copydesklaw08.RowCalls'. -/
def rowCallsCard : Claim7 := { stood := { row := rowCallsRow, standIns := [], harness := (true, "f54f8990c35988ce06e033ff957fc8e7ace84b86f25789654432b23bdfbf9887"), looks := false }, kinds := [], alts := [], laidByText := true, laidKinds := [.data, .data, .data, .pinned], laidTests := true, laidLooks := .later }
def RowCallsCardSaid : Prop := Claim7.holds Tryz.pinned (.plain (OpenSpec.ofChange rowCallsSpec)) rowCallsCard

/-- THE TIED CARD OF 'copydesklaw08.RowLeft'. -/
def rowLeftCard : Claim7 := { stood := { row := rowLeftRow, standIns := [], harness := (true, "f54f8990c35988ce06e033ff957fc8e7ace84b86f25789654432b23bdfbf9887"), looks := false }, kinds := [], alts := [], laidByText := true, laidKinds := [.data, .data, .data, .pinned], laidTests := true, laidLooks := .later }
def RowLeftCardSaid : Prop := Claim7.holds Tryz.pinned (.plain (OpenSpec.ofChange rowLeftSpec)) rowLeftCard

/-- THE SECOND FORM's CARD OF 'copydesklaw08.RowNames'. -/
def rowNamesUptoCard : Claim7 := { stood := { row := rowNamesUptoRow, standIns := [], harness := (true, "f54f8990c35988ce06e033ff957fc8e7ace84b86f25789654432b23bdfbf9887"), looks := false }, kinds := [], alts := [], laidByText := true, laidKinds := [.data, .data, .data, .pinned], laidTests := true, laidLooks := .later }
def RowNamesUptoCardSaid : Prop := Claim7.holds Tryz.pinned (.plain (OpenSpec.upto rowNamesSpec)) rowNamesUptoCard

/-- THE SECOND FORM's CARD OF 'copydesklaw08.RowCalls'. -/
def rowCallsUptoCard : Claim7 := { stood := { row := rowCallsUptoRow, standIns := [], harness := (true, "f54f8990c35988ce06e033ff957fc8e7ace84b86f25789654432b23bdfbf9887"), looks := false }, kinds := [], alts := [], laidByText := true, laidKinds := [.data, .data, .data, .pinned], laidTests := true, laidLooks := .later }
def RowCallsUptoCardSaid : Prop := Claim7.holds Tryz.pinned (.plain (OpenSpec.upto rowCallsSpec)) rowCallsUptoCard

/-- THE SECOND FORM's CARD OF 'copydesklaw08.RowLeft'. -/
def rowLeftUptoCard : Claim7 := { stood := { row := rowLeftUptoRow, standIns := [], harness := (true, "f54f8990c35988ce06e033ff957fc8e7ace84b86f25789654432b23bdfbf9887"), looks := false }, kinds := [], alts := [], laidByText := true, laidKinds := [.data, .data, .data, .pinned], laidTests := true, laidLooks := .later }
def RowLeftUptoCardSaid : Prop := Claim7.holds Tryz.pinned (.plain (OpenSpec.upto rowLeftSpec)) rowLeftUptoCard
end Rows
end Go.Proofs.YtkeillekikbhoaaGreatDoor
