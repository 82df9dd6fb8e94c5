/- The examples of the chapter on maps, run by the machine. -/
import Derived.Test.YtiilbgejdpnfpaaEwH
import Derived.Test.YtiilbgejdpnfpaaFt
namespace Go.Proofs.Ytiilbgejdpnfpaa
open Go.RowKit Go.Ev
set_option maxRecDepth 10000000 in
theorem mapsLives_run : goF (tabC Try.prog .lf 100000 fl) .lf 60 9 [] ⟨.lf, .h⟩ (fun v _ => isT v) = true := by kernel_rfl
theorem mapsLives_walk (w : World) : Calls Try.prog 9 #[] w fun e w' => e = .returned (.bool true) ∧ Below w.heap.size w w' :=
  comes_true GOk.lf (by kernel_rfl) fl_ok (fun _ _ _ => tabI_lf) 100000 60 mapsLives_run
set_option maxRecDepth 10000000 in
theorem mapsNames_run : goF (tabC Try.prog .lf 100000 fl) .lf 60 3 [] ⟨.lf, .h⟩ (fun v _ => isT v) = true := by kernel_rfl
theorem mapsNames_walk (w : World) : Calls Try.prog 3 #[] w fun e w' => e = .returned (.bool true) ∧ Below w.heap.size w w' :=
  comes_true GOk.lf (by kernel_rfl) fl_ok (fun _ _ _ => tabI_lf) 100000 60 mapsNames_run
end Go.Proofs.Ytiilbgejdpnfpaa
