/- the closed facts of StepNames's card, one theorem each. -/
import Derived.Test.YtmkddolehfaeiaaGreatDoorRow
import Derived.Test.YtmkddolehfaeiaaGreatDoorCards
import Derived.ProofKit
namespace Go.Proofs.YtmkddolehfaeiaaGreatDoor.stepNames
open Go.ChangeShapes Go.WideShapes Go.ChangeAt Go.RowKit
theorem tied0 : (Rows.stepNamesRow).wfByText (OpenSpec.ofChange Rows.stepNamesSpec) = true := by kernel_rfl
theorem tied1 : Tryz.pinned.checked.prog.mainIs = some (Rows.stepNamesCard.stood.harness.1, Rows.stepNamesCard.stood.harness.2.toList) := by kernel_rfl
theorem tied2 : Tryz.pinned.checked.prog.funcNamed Rows.stepNamesRow.func = some 3 := by kernel_rfl
theorem tied3 : false = Tryz.pinned.checked.prog.looks [] := by kernel_rfl
theorem tied4 : false = Rows.stepNamesRow.goesBy Tryz.pinned.checked.prog := by kernel_rfl
end Go.Proofs.YtmkddolehfaeiaaGreatDoor.stepNames
