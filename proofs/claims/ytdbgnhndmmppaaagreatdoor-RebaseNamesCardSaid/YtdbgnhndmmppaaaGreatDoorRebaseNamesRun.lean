/- RebaseNames run by the machine. -/
import Derived.Test.YtdbgnhndmmppaaaGreatDoorCheckMem
namespace Go.Proofs.YtdbgnhndmmppaaaGreatDoor
open Go.RowKit Go.Ev
noncomputable def livL : Hl := []
noncomputable def livV : List AV := []
noncomputable def livR : AV := .b true
set_option maxRecDepth 10000000 in
theorem liv_run : goF (tabC Tryz.prog tabT 100000 fl) toldC 60 9 livV ⟨tabH livL, .h⟩ (Go.Ev.toldN livL livL livR) = true := by kernel_rfl
theorem liv_ok {B : Nat → Prop} {W : World} (hG : GOk B W tabT) : IntrOk Tryz.prog B W 9 (memN livL livL livV livR) :=
  memN_of_run (by kernel_rfl) fl_ok (fun _ _ h => toldC_ok h) liv_run hG
noncomputable def toldD : PT Intr := toldC.set (some (memN livL livL livV livR)) (psOf 9)
theorem toldD_ok {B : Nat → Prop} {W : World} (hG : GOk B W tabT) : ∀ g f, toldD.get (psOf g) = some f → IntrOk Tryz.prog B W g f := tabI_ok (toldC_ok hG) (liv_ok hG)
set_option maxRecDepth 10000000 in
theorem rebaseNames_run : goF (tabC Tryz.prog tabT 100000 fl) toldD 60 3 [] ⟨.lf, .h⟩ (fun v _ => isT v) = true := by kernel_rfl
theorem rebaseNames_walk (w : World) {e : TypeId} {fz : Nat × Nat} (hT : w.heap[0]? = some (.cells (Lib.deBruijn32tab.map fun (n : Nat) => Value.int .u8 n).toArray e fz)) {e' : TypeId} {fz' : Nat × Nat} (hT' : w.heap[3]? = some (.cells (Lib.deBruijn64tab.map fun (n : Nat) => Value.int .u8 n).toArray e' fz')) :
    Calls Tryz.prog 3 #[] w fun e w' => e = .returned (.bool true) ∧ Below w.heap.size w w' :=
  have hG := GOk.put (GOk.lf.put (tabA_conc _ _) hT (fun _ h => h)) (tabA_conc _ _) hT' (fun _ h => h)
  comes_true hG (by kernel_rfl) fl_ok (fun _ _ h => toldD_ok h) 100000 60 rebaseNames_run
end Go.Proofs.YtdbgnhndmmppaaaGreatDoor
