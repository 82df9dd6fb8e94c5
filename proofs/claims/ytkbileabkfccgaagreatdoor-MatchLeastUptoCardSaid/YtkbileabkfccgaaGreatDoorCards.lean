/-
  DERIVED. GIVEN WITH THE SEED: THE CARDS: each row of YtkbileabkfccgaaGreatDoorRows.lean that lists a variable, with what it lists TIED to the program's text (the seventh form; the later family's looks); each row that meets fmt, with fmt's text TOLD by the authors' own Lean function (tested against real Go, not proved from fmt's source: count such statements apart). THE CARD IS WHAT COUNTS. Prove the row's statement (the work); the ties are given (YtkbileabkfccgaaGreatDoorTie.lean); close each card by the builder's one call (the guide's Derived/Test/ToyasCard.lean, 'card_holds'). Laid BY PROGRAM, IN A SANDBOX (cutbox-door.mjs). By AI agents, Wed Nov 11 2026. No macro, syntax, notation, axiom, sorry.
-/
import Derived.Test.YtkbileabkfccgaaGreatDoorRows
import GoSem.ClaimSeven
namespace Go.Proofs.YtkbileabkfccgaaGreatDoor
namespace Rows

/-- THE TIED CARD OF 'copydesklaw04.MatchLeast'. -/
def matchLeastCard : Claim7 := { stood := { row := matchLeastRow, standIns := [], harness := (true, "3005fa656db52b4a3899055d771ffc19e44de654d1ede6e788266f20d4dfbd85"), looks := false }, kinds := [], alts := [], laidByText := true, laidKinds := [.data], laidTests := true, laidLooks := .later }
def MatchLeastCardSaid : Prop := Claim7.holds Tryz.pinned (.plain (OpenSpec.ofChange matchLeastSpec)) matchLeastCard

/-- THE TIED CARD OF 'copydesklaw04.MatchAsks'. -/
def matchAsksCard : Claim7 := { stood := { row := matchAsksRow, standIns := [], harness := (true, "3005fa656db52b4a3899055d771ffc19e44de654d1ede6e788266f20d4dfbd85"), looks := false }, kinds := [], alts := [], laidByText := true, laidKinds := [.data], laidTests := true, laidLooks := .later }
def MatchAsksCardSaid : Prop := Claim7.holds Tryz.pinned (.plain (OpenSpec.ofChange matchAsksSpec)) matchAsksCard

/-- THE SECOND FORM's CARD OF 'copydesklaw04.MatchLeast'. -/
def matchLeastUptoCard : Claim7 := { stood := { row := matchLeastUptoRow, standIns := [], harness := (true, "3005fa656db52b4a3899055d771ffc19e44de654d1ede6e788266f20d4dfbd85"), looks := false }, kinds := [], alts := [], laidByText := true, laidKinds := [.data], laidTests := true, laidLooks := .later }
def MatchLeastUptoCardSaid : Prop := Claim7.holds Tryz.pinned (.plain (OpenSpec.upto matchLeastSpec)) matchLeastUptoCard

/-- THE SECOND FORM's CARD OF 'copydesklaw04.MatchAsks'. -/
def matchAsksUptoCard : Claim7 := { stood := { row := matchAsksUptoRow, standIns := [], harness := (true, "3005fa656db52b4a3899055d771ffc19e44de654d1ede6e788266f20d4dfbd85"), looks := false }, kinds := [], alts := [], laidByText := true, laidKinds := [.data], laidTests := true, laidLooks := .later }
def MatchAsksUptoCardSaid : Prop := Claim7.holds Tryz.pinned (.plain (OpenSpec.upto matchAsksSpec)) matchAsksUptoCard
end Rows
end Go.Proofs.YtkbileabkfccgaaGreatDoor
