/- row.Of at the kit's Pages and the chapter on steps' document: run once, told wherever a call like it comes. -/
import Derived.Test.YtdbgnhndmmppaaaGreatDoorAutoMem
namespace Go.Proofs.YtdbgnhndmmppaaaGreatDoor
open Go.RowKit Go.Ev
noncomputable def stepOfL : Hl := [((.o (.o (.i (.o .h)))), (.cells [(.s [112]), .l0, .l0, (.s []), (.l (.o (.i (.i .h))) 0 1 1), (.s [112]), .l0, .l0, (.s []), (.l (.o (.i (.o (.o .h)))) 0 1 1)] 31 true)),
  ((.o (.i (.o (.o .h)))), (.cells [(.s [116, 101, 120, 116]), .l0, .l0, (.s [99]), .l0] 31 true)),
  ((.o (.i (.i .h))), (.cells [(.s [116, 101, 120, 116]), .l0, .l0, (.s [97, 98]), .l0] 31 true)),
  ((.o (.i (.o .h))), (.cells [(.s [101, 109]), .l0, .l0, (.s [99, 111, 100, 101]), (.l (.i (.o (.o .h))) 0 1 1), .l0] 72 true)),
  ((.i (.o (.o .h))), (.cells [(.s [101, 109])] 9 true)),
  ((.o (.o (.o .h))), (.cells [(.s [100, 111, 99]), (.s [98, 108, 111, 99, 107, 43]), .l0, (.b false), .l0, .l0, (.s [112]), (.s [105, 110, 108, 105, 110, 101, 42]), (.l (.o .h) 0 1 1), (.b false), .l0, (.l (.o (.o .h)) 0 2 2), (.s [104]), (.s [116, 101, 120, 116, 42]), (.l (.o .h) 0 1 1), (.b false), (.l (.i .h) 0 1 1), (.l (.i (.o .h)) 0 1 1), (.s [108, 105]), (.s [112, 32, 98, 108, 111, 99, 107, 42]), (.l (.o .h) 0 1 1), (.b false), .l0, .l0, (.s [104, 114]), (.s []), (.l (.o .h) 0 1 1), (.b false), .l0, .l0, (.s [98, 114]), (.s []), (.l (.o (.i .h)) 0 1 1), (.b true), .l0, .l0, (.s [116, 101, 120, 116]), (.s []), (.l (.i (.i .h)) 0 1 1), (.b true), .l0, .l0] 70 true)),
  ((.i (.i .h)), (.cells [(.s [105, 110, 108, 105, 110, 101])] 9 true)),
  ((.o (.i .h)), (.cells [(.s [105, 110, 108, 105, 110, 101])] 9 true)),
  ((.i (.o .h)), (.cells [(.s [101, 109])] 9 true)),
  ((.i .h), (.cells [(.s [108, 101, 118, 101, 108]), (.s [49]), (.b false)] 67 true)),
  ((.o (.o .h)), (.cells [(.s [99, 111, 100, 101]), (.s [101, 109])] 9 true)),
  ((.o .h), (.cells [(.s [98, 108, 111, 99, 107])] 9 true))]
noncomputable def stepOfV : List AV := [(.a [(.l (.o (.o (.o .h))) 0 7 7), (.l (.o (.i (.o .h))) 0 2 2)]), (.a [(.s [100, 111, 99]), .l0, .l0, (.s []), (.l (.o (.o (.i (.o .h)))) 0 2 2)])]
noncomputable def stepOfN : Ps := (.o (.i (.i (.o .h))))
noncomputable def stepOfL1 : Hl := [((.o (.i (.i (.i (.o (.o (.i (.o (.o .h))))))))), (.cells [(.i .i64 1), (.s [112]), .l0, .l0, (.i .u8 0), (.i .i64 4), (.s []), .l0, .l0, (.i .u8 97), (.i .i64 4), (.s []), .l0, .l0, (.i .u8 98), (.i .i64 2), (.s []), .l0, .l0, (.i .u8 0), (.i .i64 1), (.s [112]), .l0, .l0, (.i .u8 0), (.i .i64 4), (.s []), .l0, .l0, (.i .u8 99), (.i .i64 2), (.s []), .l0, .l0, (.i .u8 0)] 78 false))]
noncomputable def stepOfR : AV := (.t [(.l (.o (.i (.i (.i (.o (.o (.i (.o (.o .h))))))))) 0 7 7), (.i .i64 0)])
set_option maxRecDepth 10000000 in
theorem stepOf_run : goF (tabC Tryz.prog tabT 100000 fl) toldA 60 72 stepOfV ⟨tabH stepOfL, stepOfN⟩ (Go.Ev.toldN stepOfL stepOfL1 stepOfR) = true := by kernel_rfl
theorem stepOf_ok {B : Nat → Prop} {W : World} (hG : GOk B W tabT) : IntrOk Tryz.prog B W 72 (memN stepOfL stepOfL1 stepOfV stepOfR) :=
  memN_of_run (by kernel_rfl) fl_ok (fun _ _ h => toldA_ok h) stepOf_run hG
noncomputable def toldP : PT Intr := toldA.set (some (memN stepOfL stepOfL1 stepOfV stepOfR)) (psOf 72)
theorem toldP_ok {B : Nat → Prop} {W : World} (hG : GOk B W tabT) : ∀ g f, toldP.get (psOf g) = some f → IntrOk Tryz.prog B W g f := tabI_ok (toldA_ok hG) (stepOf_ok hG)
end Go.Proofs.YtdbgnhndmmppaaaGreatDoor
