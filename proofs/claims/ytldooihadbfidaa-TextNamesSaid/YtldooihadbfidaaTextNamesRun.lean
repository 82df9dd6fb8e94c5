/- The examples of the chapter on text, run by the machine. -/
import Derived.Test.YtldooihadbfidaaToldB
namespace Go.Proofs.Ytldooihadbfidaa
open Go.RowKit Go.Ev
set_option maxRecDepth 10000000 in
theorem textNames_run : goF (tabC Try.prog .lf 100000 fl) toldN 60 3 [] ⟨.lf, .h⟩ (fun v _ => isT v) = true := by kernel_rfl
theorem textNames_walk (w : World) : Calls Try.prog 3 #[] w fun e w' => e = .returned (.bool true) ∧ Below w.heap.size w w' :=
  comes_true GOk.lf (by kernel_rfl) fl_ok (fun _ _ _ => toldN_ok) 100000 60 textNames_run
end Go.Proofs.Ytldooihadbfidaa
