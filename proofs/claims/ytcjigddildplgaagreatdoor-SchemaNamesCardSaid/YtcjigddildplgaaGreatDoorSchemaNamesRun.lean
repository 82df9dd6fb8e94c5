/- SchemaNames run by the machine. -/
import Derived.Test.YtcjigddildplgaaGreatDoorFt
import Derived.Test.YtcjigddildplgaaGreatDoorItX
namespace Go.Proofs.YtcjigddildplgaaGreatDoor
open Go.RowKit Go.Ev
noncomputable def tab32s : PT (List AV) := PT.lf.set (some (tabA .u8 Lib.deBruijn32tab)) (psOf 0)
noncomputable def toldS : PT Intr := PT.lf.set (some (sortedI 9 94)) (psOf 50)
theorem toldS_ok {B : Nat → Prop} {W : World} : ∀ g f, toldS.get (psOf g) = some f → IntrOk Tryz.prog B W g f :=
  tabI_ok tabI_lf (sorted_ok (by kernel_rfl) Tryz.underlying9 (enters_of Tryz.func50 (by kernel_rfl) rfl) keysSchema)
set_option maxRecDepth 10000000 in
theorem schemaNames_run : goF (tabC Tryz.prog tab32s 100000 fl) toldS 60 3 [] ⟨.lf, .h⟩ (fun v _ => isT v) = true := by kernel_rfl
theorem schemaNames_walk (w : World) {e : TypeId} {fz : Nat × Nat} (hT : w.heap[0]? = some (.cells (Lib.deBruijn32tab.map fun (n : Nat) => Value.int .u8 n).toArray e fz)) :
    Calls Tryz.prog 3 #[] w fun e w' => e = .returned (.bool true) ∧ Below w.heap.size w w' :=
  comes_true (GOk.lf.put (tabA_conc _ _) hT (fun _ h => h)) (by kernel_rfl) fl_ok toldS_ok 100000 60 schemaNames_run
end Go.Proofs.YtcjigddildplgaaGreatDoor
