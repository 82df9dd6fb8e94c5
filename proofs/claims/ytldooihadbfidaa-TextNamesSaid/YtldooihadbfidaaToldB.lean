/- What the machine is told, in a seat that reaches strings.Builder, but neither schema nor match. -/
import Derived.Test.YtldooihadbfidaaBu
import Derived.Test.YtldooihadbfidaaEwH
import Derived.Test.YtldooihadbfidaaFt
namespace Go.Proofs.Ytldooihadbfidaa
open Go.RowKit Go.Ev
noncomputable def toldN : PT Intr := (PT.lf.set (some (copyCheckI 47)) (psOf 37)).set (some (stringI 47 5)) (psOf 15)
theorem toldN_ok {B : Nat → Prop} {W : World} : ∀ g f, toldN.get (psOf g) = some f → IntrOk Try.prog B W g f :=
  tabI_ok (tabI_ok tabI_lf (copyCheck_ok (enters_of Try.func37 (by kernel_rfl) rfl) copyChecks)) (string_ok (enters_of Try.func15 (by kernel_rfl) rfl) strings)
end Go.Proofs.Ytldooihadbfidaa
