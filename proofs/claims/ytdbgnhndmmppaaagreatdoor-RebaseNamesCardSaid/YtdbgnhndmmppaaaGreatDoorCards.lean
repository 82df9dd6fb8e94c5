/-
  DERIVED. GIVEN WITH THE SEED: THE CARDS: each row of YtdbgnhndmmppaaaGreatDoorRows.lean that lists a variable, with what it lists TIED to the program's text (the seventh form; the later family's looks); each row that meets fmt, with fmt's text TOLD by the authors' own Lean function (tested against real Go, not proved from fmt's source: count such statements apart). THE CARD IS WHAT COUNTS. Prove the row's statement (the work); the ties are given (YtdbgnhndmmppaaaGreatDoorTie.lean); close each card by the builder's one call (the guide's Derived/Test/ToyasCard.lean, 'card_holds'). Laid BY PROGRAM, IN A SANDBOX (cutbox-door.mjs). By AI agents, Wed Nov 11 2026. No macro, syntax, notation, axiom, sorry.
-/
import Derived.Test.YtdbgnhndmmppaaaGreatDoorRows
import GoSem.ClaimSeven
namespace Go.Proofs.YtdbgnhndmmppaaaGreatDoor
namespace Rows

/-- THE TIED CARD OF 'copydesklaw13.RebaseNames'. -/
def rebaseNamesCard : Claim7 := { stood := { row := rebaseNamesRow, standIns := [], harness := (true, "43492da5ad332489c45e7248ad8528050e41dfac04a317d356b942ea7ca39084"), looks := false }, kinds := [], alts := [], laidByText := true, laidKinds := [.data, .data, .data, .pinned], laidTests := true, laidLooks := .later }
def RebaseNamesCardSaid : Prop := Claim7.holds Tryz.pinned (.plain (OpenSpec.ofChange rebaseNamesSpec)) rebaseNamesCard

/-- THE SECOND FORM's CARD OF 'copydesklaw13.RebaseNames'. -/
def rebaseNamesUptoCard : Claim7 := { stood := { row := rebaseNamesUptoRow, standIns := [], harness := (true, "43492da5ad332489c45e7248ad8528050e41dfac04a317d356b942ea7ca39084"), looks := false }, kinds := [], alts := [], laidByText := true, laidKinds := [.data, .data, .data, .pinned], laidTests := true, laidLooks := .later }
def RebaseNamesUptoCardSaid : Prop := Claim7.holds Tryz.pinned (.plain (OpenSpec.upto rebaseNamesSpec)) rebaseNamesUptoCard
end Rows
end Go.Proofs.YtdbgnhndmmppaaaGreatDoor
