/- MarkNames run by the machine. -/
import Derived.Test.YtcjigddildplgaaGreatDoorFt
namespace Go.Proofs.YtcjigddildplgaaGreatDoor
open Go.RowKit Go.Ev
noncomputable def tab32 : PT (List AV) := PT.lf.set (some (tabA .u8 Lib.deBruijn32tab)) (psOf 0)
set_option maxRecDepth 10000000 in
theorem markNames_run : goF (tabC Tryz.prog tab32 100000 fl) .lf 60 4 [] ⟨.lf, .h⟩ (fun v _ => isT v) = true := by kernel_rfl
theorem markNames_walk (w : World) {e : TypeId} {fz : Nat × Nat} (hT : w.heap[0]? = some (.cells (Lib.deBruijn32tab.map fun (n : Nat) => Value.int .u8 n).toArray e fz)) :
    Calls Tryz.prog 4 #[] w fun e w' => e = .returned (.bool true) ∧ Below w.heap.size w w' :=
  comes_true (GOk.lf.put (tabA_conc _ _) hT (fun _ h => h)) (by kernel_rfl) fl_ok tabI_lf 100000 60 markNames_run
end Go.Proofs.YtcjigddildplgaaGreatDoor
