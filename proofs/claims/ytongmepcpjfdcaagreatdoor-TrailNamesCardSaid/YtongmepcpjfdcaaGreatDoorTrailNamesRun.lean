/- TrailNames run by the machine. -/
import Derived.Test.YtongmepcpjfdcaaGreatDoorStepMem
namespace Go.Proofs.YtongmepcpjfdcaaGreatDoor
open Go.RowKit Go.Ev
set_option maxRecDepth 10000000 in
theorem trailNames_run : goF (tabC Tryz.prog tabT 100000 fl) toldP 60 3 [] ⟨.lf, .h⟩ (fun v _ => isT v) = true := by kernel_rfl
theorem trailNames_walk (w : World) {e : TypeId} {fz : Nat × Nat} (hT : w.heap[0]? = some (.cells (Lib.deBruijn32tab.map fun (n : Nat) => Value.int .u8 n).toArray e fz)) {e' : TypeId} {fz' : Nat × Nat} (hT' : w.heap[3]? = some (.cells (Lib.deBruijn64tab.map fun (n : Nat) => Value.int .u8 n).toArray e' fz')) :
    Calls Tryz.prog 3 #[] w fun e w' => e = .returned (.bool true) ∧ Below w.heap.size w w' :=
  have hG := GOk.put (GOk.lf.put (tabA_conc _ _) hT (fun _ h => h)) (tabA_conc _ _) hT' (fun _ h => h)
  comes_true hG (by kernel_rfl) fl_ok (fun _ _ h => toldP_ok h) 100000 60 trailNames_run
end Go.Proofs.YtongmepcpjfdcaaGreatDoor
