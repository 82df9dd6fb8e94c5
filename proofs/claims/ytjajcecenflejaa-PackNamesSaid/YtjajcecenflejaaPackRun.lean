/- The examples of the chapter on pack, run by the machine. -/
import Derived.Test.YtjajcecenflejaaToldM
namespace Go.Proofs.Ytjajcecenflejaa
open Go.RowKit Go.Ev
set_option maxRecDepth 10000000 in
theorem packLives_run : goF (tabC Try.prog .lf 100000 fl) toldN 60 9 [] ⟨.lf, .h⟩ (fun v _ => isT v) = true := by kernel_rfl
theorem packLives_walk (w : World) : Calls Try.prog 9 #[] w fun e w' => e = .returned (.bool true) ∧ Below w.heap.size w w' :=
  comes_true GOk.lf (by kernel_rfl) fl_ok (fun _ _ _ => toldN_ok) 100000 60 packLives_run
set_option maxRecDepth 10000000 in
theorem packNames_run : goF (tabC Try.prog .lf 100000 fl) toldN 60 3 [] ⟨.lf, .h⟩ (fun v _ => isT v) = true := by kernel_rfl
theorem packNames_walk (w : World) : Calls Try.prog 3 #[] w fun e w' => e = .returned (.bool true) ∧ Below w.heap.size w w' :=
  comes_true GOk.lf (by kernel_rfl) fl_ok (fun _ _ _ => toldN_ok) 100000 60 packNames_run
end Go.Proofs.Ytjajcecenflejaa
