/- MatchNames, run. -/
import Derived.Test.YtdanhginifohaaaGreatDoorFt
import Derived.Test.YtdanhginifohaaaGreatDoorItW
import Derived.Test.YtdanhginifohaaaGreatDoorItY
namespace Go.Proofs.YtdanhginifohaaaGreatDoor
open Go.RowKit Go.Ev
noncomputable def tab64 : PT (List AV) := PT.lf.set (some (tabA .u8 Lib.deBruijn64tab)) (psOf 1)
noncomputable def told : PT Intr := (PT.lf.set (some (sortedI 9 185)) (psOf 68)).set (some (appSeqI 9 124)) (psOf 190)
theorem told_ok {B : Nat} {W : World} : ∀ g f, told.get (psOf g) = some f → IntrOk Tryz.prog B W g f :=
  tabI_ok (tabI_ok tabI_lf (sorted_ok (by kernel_rfl) Tryz.underlying9 (enters_of Tryz.func68 (by kernel_rfl) rfl) keysMatch))
    (appSeq_ok (by kernel_rfl) (enters_of Tryz.func190 (by kernel_rfl) rfl) appVals)
set_option maxRecDepth 100000 in
theorem matchNames_run : allT (evF Tryz.prog tab64 (tabF fl) told 100000 60 3 [] ⟨.lf, .h⟩) = true := by kernel_rfl
theorem matchNames_walk (w : World) {e : TypeId} {fz : Nat × Nat} (hT : w.heap[1]? = some (.cells (Lib.deBruijn64tab.map fun (n : Nat) => Value.int .u8 n).toArray e fz)) :
    Calls Tryz.prog 3 #[] w fun e w' => e = .returned (.bool true) ∧ Below w.heap.size w w' :=
  comes_true (GOk.lf.put (tabA_conc _ _) hT (Nat.le_refl _)) (by kernel_rfl) fl_ok told_ok 100000 60 matchNames_run
end Go.Proofs.YtdanhginifohaaaGreatDoor
