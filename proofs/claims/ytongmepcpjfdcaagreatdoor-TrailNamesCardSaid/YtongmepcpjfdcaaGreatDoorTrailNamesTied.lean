/- the closed facts of TrailNames's card, one theorem each. -/
import Derived.Test.YtongmepcpjfdcaaGreatDoorRow
import Derived.Test.YtongmepcpjfdcaaGreatDoorCards
import Derived.ProofKit
namespace Go.Proofs.YtongmepcpjfdcaaGreatDoor.trailNames
open Go.ChangeShapes Go.WideShapes Go.ChangeAt Go.RowKit
theorem tied0 : (Rows.trailNamesRow).wfByText (OpenSpec.ofChange Rows.trailNamesSpec) = true := by kernel_rfl
theorem tied1 : Tryz.pinned.checked.prog.mainIs = some (Rows.trailNamesCard.stood.harness.1, Rows.trailNamesCard.stood.harness.2.toList) := by kernel_rfl
theorem tied2 : Tryz.pinned.checked.prog.funcNamed Rows.trailNamesRow.func = some 3 := by kernel_rfl
theorem tied3 : false = Tryz.pinned.checked.prog.looks [] := by kernel_rfl
theorem tied4 : false = Rows.trailNamesRow.goesBy Tryz.pinned.checked.prog := by kernel_rfl
end Go.Proofs.YtongmepcpjfdcaaGreatDoor.trailNames
