/- A machine that runs a Go text by reckoning: what was run, told again, also where it makes memory. Of no program. -/
import Derived.Test.YtjajcecenflejaaEwG
import Derived.Test.YtjajcecenflejaaEvW
namespace Go.Ev
open Go.RowKit
noncomputable def toldN (L L1 : Hl) (v1 v : AV) (s : S) : Bool := bif avEq 20 v v1 then (bif keepH L s.h then keepH L1 s.h else false) else false
/-- a call that was run is told wherever one like it comes -/
theorem memN_of_run {P : Program} {G : PT (List AV)} {l : List (Nat × Func)} {I : PT Intr} (hm : P.follows .mixedOrders = true) (hl : AllF P l) (hI : ∀ (B : Nat → Prop) (W : World), GOk B W G → ∀ g f, I.get (psOf g) = some f → IntrOk P B W g f)
    {fuel d : Nat} {g : FuncId} {L L1 : Hl} {vs0 : List AV} {v1 : AV} {n0 : Ps} (h : goF (tabC P G fuel l) I d g vs0 ⟨tabH L, n0⟩ (toldN L L1 v1) = true) {B : Nat → Prop} {W : World} (hG : GOk B W G) (hne : g ≠ yNo := by decide) : IntrOk P B W g (memN L L1 vs0 v1) :=
  memN_ok hG fun B' W' hG' => ((goF_spec hm (tabC_ok hl) tabC_yNo hI d B' W' hG').call g _ _ _ hne h).mono fun v s' hv => by
    unfold toldN at hv
    obtain ⟨h1, h2⟩ := bif2 hv
    obtain ⟨h3, h4⟩ := bif2 h2
    exact ⟨avEq_eq 20 _ _ h1, h3, h4⟩
end Go.Ev
