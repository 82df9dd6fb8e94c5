/- schema.Check at the kit's Pages: run once, told wherever a call like it comes. -/
import Derived.Test.YtdbgnhndmmppaaaGreatDoorStepMem
namespace Go.Proofs.YtdbgnhndmmppaaaGreatDoor
open Go.RowKit Go.Ev
noncomputable def chkPL : Hl := [((.o (.i (.o .h))), (.cells [(.s [101, 109]), .l0, .l0, (.s [99, 111, 100, 101]), (.l (.i (.o (.o .h))) 0 1 1), .l0] 72 true)),
  ((.i (.o (.o .h))), (.cells [(.s [101, 109])] 9 true)),
  ((.o (.o (.o .h))), (.cells [(.s [100, 111, 99]), (.s [98, 108, 111, 99, 107, 43]), .l0, (.b false), .l0, .l0, (.s [112]), (.s [105, 110, 108, 105, 110, 101, 42]), (.l (.o .h) 0 1 1), (.b false), .l0, (.l (.o (.o .h)) 0 2 2), (.s [104]), (.s [116, 101, 120, 116, 42]), (.l (.o .h) 0 1 1), (.b false), (.l (.i .h) 0 1 1), (.l (.i (.o .h)) 0 1 1), (.s [108, 105]), (.s [112, 32, 98, 108, 111, 99, 107, 42]), (.l (.o .h) 0 1 1), (.b false), .l0, .l0, (.s [104, 114]), (.s []), (.l (.o .h) 0 1 1), (.b false), .l0, .l0, (.s [98, 114]), (.s []), (.l (.o (.i .h)) 0 1 1), (.b true), .l0, .l0, (.s [116, 101, 120, 116]), (.s []), (.l (.i (.i .h)) 0 1 1), (.b true), .l0, .l0] 70 true)),
  ((.i (.i .h)), (.cells [(.s [105, 110, 108, 105, 110, 101])] 9 true)),
  ((.o (.i .h)), (.cells [(.s [105, 110, 108, 105, 110, 101])] 9 true)),
  ((.i (.o .h)), (.cells [(.s [101, 109])] 9 true)),
  ((.i .h), (.cells [(.s [108, 101, 118, 101, 108]), (.s [49]), (.b false)] 67 true)),
  ((.o (.o .h)), (.cells [(.s [99, 111, 100, 101]), (.s [101, 109])] 9 true)),
  ((.o .h), (.cells [(.s [98, 108, 111, 99, 107])] 9 true))]
noncomputable def chkPV : List AV := [(.a [(.l (.o (.o (.o .h))) 0 7 7), (.l (.o (.i (.o .h))) 0 2 2)])]
noncomputable def chkPN : Ps := (.i (.i (.o .h)))
noncomputable def chkPL1 : Hl := []
noncomputable def chkPR : AV := (.i .i64 0)
set_option maxRecDepth 10000000 in
theorem chkP_run : goF (tabC Tryz.prog tabT 100000 fl) toldP 60 83 chkPV ⟨tabH chkPL, chkPN⟩ (Go.Ev.toldN chkPL chkPL1 chkPR) = true := by kernel_rfl
theorem chkP_ok {B : Nat → Prop} {W : World} (hG : GOk B W tabT) : IntrOk Tryz.prog B W 83 (memN chkPL chkPL1 chkPV chkPR) :=
  memN_of_run (by kernel_rfl) fl_ok (fun _ _ h => toldP_ok h) chkP_run hG
noncomputable def toldC : PT Intr := toldP.set (some (memN chkPL chkPL1 chkPV chkPR)) (psOf 83)
theorem toldC_ok {B : Nat → Prop} {W : World} (hG : GOk B W tabT) : ∀ g f, toldC.get (psOf g) = some f → IntrOk Tryz.prog B W g f := tabI_ok (toldP_ok hG) (chkP_ok hG)
end Go.Proofs.YtdbgnhndmmppaaaGreatDoor
