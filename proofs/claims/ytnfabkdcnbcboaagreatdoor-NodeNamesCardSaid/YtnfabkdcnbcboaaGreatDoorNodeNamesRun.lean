/- NodeNames run by the machine. -/
import Derived.Test.YtnfabkdcnbcboaaGreatDoorOpenMem
namespace Go.Proofs.YtnfabkdcnbcboaaGreatDoor
open Go.RowKit Go.Ev
noncomputable def toldN : PT Intr := (((PT.lf.set (some (orI (sortedI 9 214) (sortedI 9 253))) (psOf 162)).set (some (copyCheckI 94)) (psOf 80)).set (some (stringI 94 5)) (psOf 42)).set (some (orI (memN openPL openPL1 openPV openPR) (memN openBL openBL1 openBV openBR))) (psOf 22)
theorem toldN_ok {B : Nat → Prop} {W : World} (hG : GOk B W tabT) : ∀ g f, toldN.get (psOf g) = some f → IntrOk Tryz.prog B W g f :=
  tabI_ok (tabI_ok (tabI_ok (tabI_ok tabI_lf (or_ok (sorted_ok (by kernel_rfl) Tryz.underlying9 (enters_of Tryz.func162 (by kernel_rfl) rfl) keysSchema) (sorted_ok (by kernel_rfl) Tryz.underlying9 (enters_of Tryz.func162 (by kernel_rfl) rfl) keysMatch)))
    (copyCheck_ok (enters_of Tryz.func80 (by kernel_rfl) rfl) copyChecks)) (string_ok (enters_of Tryz.func42 (by kernel_rfl) rfl) strings)) (or_ok (openP_ok hG) (openB_ok hG))
set_option maxRecDepth 10000000 in
theorem nodeNames_run : goF (tabC Tryz.prog tabT 100000 fl) toldN 60 3 [] ⟨.lf, .h⟩ (fun v _ => isT v) = true := by kernel_rfl
theorem nodeNames_walk (w : World) {e : TypeId} {fz : Nat × Nat} (hT : w.heap[0]? = some (.cells (Lib.deBruijn32tab.map fun (n : Nat) => Value.int .u8 n).toArray e fz)) {e' : TypeId} {fz' : Nat × Nat} (hT' : w.heap[3]? = some (.cells (Lib.deBruijn64tab.map fun (n : Nat) => Value.int .u8 n).toArray e' fz')) :
    Calls Tryz.prog 3 #[] w fun e w' => e = .returned (.bool true) ∧ Below w.heap.size w w' :=
  have hG := GOk.put (GOk.lf.put (tabA_conc _ _) hT (fun _ h => h)) (tabA_conc _ _) hT' (fun _ h => h)
  comes_true hG (by kernel_rfl) fl_ok (toldN_ok hG) 100000 60 nodeNames_run
end Go.Proofs.YtnfabkdcnbcboaaGreatDoor
