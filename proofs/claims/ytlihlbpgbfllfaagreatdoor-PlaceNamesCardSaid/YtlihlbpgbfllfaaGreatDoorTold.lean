/- What the machine is told: slices.Sorted of maps.Keys, strings.Builder, schema.open at the kit's Pages and at what node.bare makes of them. -/
import Derived.Test.YtlihlbpgbfllfaaGreatDoorOpenMem
import Derived.Test.YtlihlbpgbfllfaaGreatDoorBu
namespace Go.Proofs.YtlihlbpgbfllfaaGreatDoor
open Go.RowKit Go.Ev
noncomputable def toldN : PT Intr := (((PT.lf.set (some (orI (sortedI 9 124) (sortedI 9 178))) (psOf 74)).set (some (copyCheckI 78)) (psOf 32)).set (some (stringI 78 5)) (psOf 19)).set (some (orI (memN openPL openPL1 openPV openPR) (memN openBL openBL1 openBV openBR))) (psOf 44)
theorem toldN_ok {B : Nat → Prop} {W : World} (hG : GOk B W tabT) : ∀ g f, toldN.get (psOf g) = some f → IntrOk Tryz.prog B W g f :=
  tabI_ok (tabI_ok (tabI_ok (tabI_ok tabI_lf (or_ok (sorted_ok (by kernel_rfl) Tryz.underlying9 (enters_of Tryz.func74 (by kernel_rfl) rfl) keysSchema) (sorted_ok (by kernel_rfl) Tryz.underlying9 (enters_of Tryz.func74 (by kernel_rfl) rfl) keysMatch)))
    (copyCheck_ok (enters_of Tryz.func32 (by kernel_rfl) rfl) copyChecks)) (string_ok (enters_of Tryz.func19 (by kernel_rfl) rfl) strings)) (or_ok (openP_ok hG) (openB_ok hG))
end Go.Proofs.YtlihlbpgbfllfaaGreatDoor
