/- the closed facts of RebaseNames's card, one theorem each. -/
import Derived.Test.YtdbgnhndmmppaaaGreatDoorRow
import Derived.Test.YtdbgnhndmmppaaaGreatDoorCards
import Derived.ProofKit
namespace Go.Proofs.YtdbgnhndmmppaaaGreatDoor.rebaseNames
open Go.ChangeShapes Go.WideShapes Go.ChangeAt Go.RowKit
theorem tied0 : (Rows.rebaseNamesRow).wfByText (OpenSpec.ofChange Rows.rebaseNamesSpec) = true := by kernel_rfl
theorem tied1 : Tryz.pinned.checked.prog.mainIs = some (Rows.rebaseNamesCard.stood.harness.1, Rows.rebaseNamesCard.stood.harness.2.toList) := by kernel_rfl
theorem tied2 : Tryz.pinned.checked.prog.funcNamed Rows.rebaseNamesRow.func = some 3 := by kernel_rfl
theorem tied3 : false = Tryz.pinned.checked.prog.looks [] := by kernel_rfl
theorem tied4 : false = Rows.rebaseNamesRow.goesBy Tryz.pinned.checked.prog := by kernel_rfl
end Go.Proofs.YtdbgnhndmmppaaaGreatDoor.rebaseNames
