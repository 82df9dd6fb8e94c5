/- What the machine is told, in a seat that reaches no strings.Builder: slices.Sorted of maps.Keys, schema.open at the kit's Pages and at what node.bare makes of them. -/
import Derived.Test.YtdbgnhndmmppaaaGreatDoorOpenMem
namespace Go.Proofs.YtdbgnhndmmppaaaGreatDoor
open Go.RowKit Go.Ev
noncomputable def toldN : PT Intr := (PT.lf.set (some (orI (sortedI 9 331) (sortedI 9 370))) (psOf 277)).set (some (orI (memN openPL openPL1 openPV openPR) (memN openBL openBL1 openBV openBR))) (psOf 110)
theorem toldN_ok {B : Nat → Prop} {W : World} (hG : GOk B W tabT) : ∀ g f, toldN.get (psOf g) = some f → IntrOk Tryz.prog B W g f :=
  tabI_ok (tabI_ok tabI_lf (or_ok (sorted_ok (by kernel_rfl) Tryz.underlying9 (enters_of Tryz.func277 (by kernel_rfl) rfl) keysSchema) (sorted_ok (by kernel_rfl) Tryz.underlying9 (enters_of Tryz.func277 (by kernel_rfl) rfl) keysMatch)))
    (or_ok (openP_ok hG) (openB_ok hG))
end Go.Proofs.YtdbgnhndmmppaaaGreatDoor
