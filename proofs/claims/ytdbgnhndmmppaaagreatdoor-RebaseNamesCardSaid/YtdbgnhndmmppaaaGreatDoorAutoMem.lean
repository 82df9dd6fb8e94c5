/- What is told to the machine where steps are done: schema.Auto at the kit's Pages for doc, p, li; schema.open at what a step's marks are added by: each run once, told wherever a call like it comes. -/
import Derived.Test.YtdbgnhndmmppaaaGreatDoorToldR
namespace Go.Proofs.YtdbgnhndmmppaaaGreatDoor
open Go.RowKit Go.Ev
noncomputable def autoDL : Hl := [((.o (.i (.o .h))), (.cells [(.s [101, 109]), .l0, .l0, (.s [99, 111, 100, 101]), (.l (.i (.o (.o .h))) 0 1 1), .l0] 72 true)),
  ((.i (.o (.o .h))), (.cells [(.s [101, 109])] 9 true)),
  ((.o (.o (.o .h))), (.cells [(.s [100, 111, 99]), (.s [98, 108, 111, 99, 107, 43]), .l0, (.b false), .l0, .l0, (.s [112]), (.s [105, 110, 108, 105, 110, 101, 42]), (.l (.o .h) 0 1 1), (.b false), .l0, (.l (.o (.o .h)) 0 2 2), (.s [104]), (.s [116, 101, 120, 116, 42]), (.l (.o .h) 0 1 1), (.b false), (.l (.i .h) 0 1 1), (.l (.i (.o .h)) 0 1 1), (.s [108, 105]), (.s [112, 32, 98, 108, 111, 99, 107, 42]), (.l (.o .h) 0 1 1), (.b false), .l0, .l0, (.s [104, 114]), (.s []), (.l (.o .h) 0 1 1), (.b false), .l0, .l0, (.s [98, 114]), (.s []), (.l (.o (.i .h)) 0 1 1), (.b true), .l0, .l0, (.s [116, 101, 120, 116]), (.s []), (.l (.i (.i .h)) 0 1 1), (.b true), .l0, .l0] 70 true)),
  ((.i (.i .h)), (.cells [(.s [105, 110, 108, 105, 110, 101])] 9 true)),
  ((.o (.i .h)), (.cells [(.s [105, 110, 108, 105, 110, 101])] 9 true)),
  ((.i (.o .h)), (.cells [(.s [101, 109])] 9 true)),
  ((.i .h), (.cells [(.s [108, 101, 118, 101, 108]), (.s [49]), (.b false)] 67 true)),
  ((.o (.o .h)), (.cells [(.s [99, 111, 100, 101]), (.s [101, 109])] 9 true)),
  ((.o .h), (.cells [(.s [98, 108, 111, 99, 107])] 9 true))]
noncomputable def autoDV : List AV := [(.a [(.l (.o (.o (.o .h))) 0 7 7), (.l (.o (.i (.o .h))) 0 2 2)]), (.s [100, 111, 99])]
noncomputable def autoDN : Ps := (.i (.i (.o .h)))
noncomputable def autoDL1 : Hl := [((.o (.i (.i (.o (.o (.i (.i .h))))))), (.cells [(.s [104]), (.i .i64 1), (.s [104, 114]), (.i .i64 1), (.s [108, 105]), (.i .i64 1), (.s [112]), (.i .i64 1)] 437 false)),
  ((.o (.i (.i (.o (.i (.i (.i .h))))))), (.cells [(.s [104]), (.i .i64 1), (.s [104, 114]), (.i .i64 1), (.s [108, 105]), (.i .i64 1), (.s [112]), (.i .i64 1)] 437 false)),
  ((.o (.i (.i (.i (.i (.i (.i .h))))))), (.cells [(.b false), (.l (.o (.i (.i (.o (.o (.i (.i .h))))))) 0 4 4), (.b true), (.l (.o (.i (.i (.o (.i (.i (.i .h))))))) 0 4 4)] 378 false))]
noncomputable def autoDR : AV := (.t [(.a [(.l (.o (.i (.i (.i (.i (.i (.i .h))))))) 0 2 2)]), (.i .i64 0)])
set_option maxRecDepth 10000000 in
theorem autoD_run : goF (tabC Tryz.prog tabT 100000 fl) toldN 60 170 autoDV ⟨tabH autoDL, autoDN⟩ (Go.Ev.toldN autoDL autoDL1 autoDR) = true := by kernel_rfl
theorem autoD_ok {B : Nat → Prop} {W : World} (hG : GOk B W tabT) : IntrOk Tryz.prog B W 170 (memN autoDL autoDL1 autoDV autoDR) :=
  memN_of_run (by kernel_rfl) fl_ok (fun _ _ h => toldN_ok h) autoD_run hG
noncomputable def autoPL : Hl := [((.o (.i (.o .h))), (.cells [(.s [101, 109]), .l0, .l0, (.s [99, 111, 100, 101]), (.l (.i (.o (.o .h))) 0 1 1), .l0] 72 true)),
  ((.i (.o (.o .h))), (.cells [(.s [101, 109])] 9 true)),
  ((.o (.o (.o .h))), (.cells [(.s [100, 111, 99]), (.s [98, 108, 111, 99, 107, 43]), .l0, (.b false), .l0, .l0, (.s [112]), (.s [105, 110, 108, 105, 110, 101, 42]), (.l (.o .h) 0 1 1), (.b false), .l0, (.l (.o (.o .h)) 0 2 2), (.s [104]), (.s [116, 101, 120, 116, 42]), (.l (.o .h) 0 1 1), (.b false), (.l (.i .h) 0 1 1), (.l (.i (.o .h)) 0 1 1), (.s [108, 105]), (.s [112, 32, 98, 108, 111, 99, 107, 42]), (.l (.o .h) 0 1 1), (.b false), .l0, .l0, (.s [104, 114]), (.s []), (.l (.o .h) 0 1 1), (.b false), .l0, .l0, (.s [98, 114]), (.s []), (.l (.o (.i .h)) 0 1 1), (.b true), .l0, .l0, (.s [116, 101, 120, 116]), (.s []), (.l (.i (.i .h)) 0 1 1), (.b true), .l0, .l0] 70 true)),
  ((.i (.i .h)), (.cells [(.s [105, 110, 108, 105, 110, 101])] 9 true)),
  ((.o (.i .h)), (.cells [(.s [105, 110, 108, 105, 110, 101])] 9 true)),
  ((.i (.o .h)), (.cells [(.s [101, 109])] 9 true)),
  ((.i .h), (.cells [(.s [108, 101, 118, 101, 108]), (.s [49]), (.b false)] 67 true)),
  ((.o (.o .h)), (.cells [(.s [99, 111, 100, 101]), (.s [101, 109])] 9 true)),
  ((.o .h), (.cells [(.s [98, 108, 111, 99, 107])] 9 true))]
noncomputable def autoPV : List AV := [(.a [(.l (.o (.o (.o .h))) 0 7 7), (.l (.o (.i (.o .h))) 0 2 2)]), (.s [112])]
noncomputable def autoPN : Ps := (.i (.i (.o .h)))
noncomputable def autoPL1 : Hl := [((.o (.i (.o (.o (.o (.o (.i .h))))))), (.cells [(.s [98, 114]), (.i .i64 0), (.s [116, 101, 120, 116]), (.i .i64 0)] 437 false)),
  ((.o (.i (.i (.o (.o (.o (.i .h))))))), (.cells [(.b true), (.l (.o (.i (.o (.o (.o (.o (.i .h))))))) 0 2 2)] 378 false))]
noncomputable def autoPR : AV := (.t [(.a [(.l (.o (.i (.i (.o (.o (.o (.i .h))))))) 0 1 1)]), (.i .i64 0)])
set_option maxRecDepth 10000000 in
theorem autoP_run : goF (tabC Tryz.prog tabT 100000 fl) toldN 60 170 autoPV ⟨tabH autoPL, autoPN⟩ (Go.Ev.toldN autoPL autoPL1 autoPR) = true := by kernel_rfl
theorem autoP_ok {B : Nat → Prop} {W : World} (hG : GOk B W tabT) : IntrOk Tryz.prog B W 170 (memN autoPL autoPL1 autoPV autoPR) :=
  memN_of_run (by kernel_rfl) fl_ok (fun _ _ h => toldN_ok h) autoP_run hG
noncomputable def autoLL : Hl := [((.o (.i (.o .h))), (.cells [(.s [101, 109]), .l0, .l0, (.s [99, 111, 100, 101]), (.l (.i (.o (.o .h))) 0 1 1), .l0] 72 true)),
  ((.i (.o (.o .h))), (.cells [(.s [101, 109])] 9 true)),
  ((.o (.o (.o .h))), (.cells [(.s [100, 111, 99]), (.s [98, 108, 111, 99, 107, 43]), .l0, (.b false), .l0, .l0, (.s [112]), (.s [105, 110, 108, 105, 110, 101, 42]), (.l (.o .h) 0 1 1), (.b false), .l0, (.l (.o (.o .h)) 0 2 2), (.s [104]), (.s [116, 101, 120, 116, 42]), (.l (.o .h) 0 1 1), (.b false), (.l (.i .h) 0 1 1), (.l (.i (.o .h)) 0 1 1), (.s [108, 105]), (.s [112, 32, 98, 108, 111, 99, 107, 42]), (.l (.o .h) 0 1 1), (.b false), .l0, .l0, (.s [104, 114]), (.s []), (.l (.o .h) 0 1 1), (.b false), .l0, .l0, (.s [98, 114]), (.s []), (.l (.o (.i .h)) 0 1 1), (.b true), .l0, .l0, (.s [116, 101, 120, 116]), (.s []), (.l (.i (.i .h)) 0 1 1), (.b true), .l0, .l0] 70 true)),
  ((.i (.i .h)), (.cells [(.s [105, 110, 108, 105, 110, 101])] 9 true)),
  ((.o (.i .h)), (.cells [(.s [105, 110, 108, 105, 110, 101])] 9 true)),
  ((.i (.o .h)), (.cells [(.s [101, 109])] 9 true)),
  ((.i .h), (.cells [(.s [108, 101, 118, 101, 108]), (.s [49]), (.b false)] 67 true)),
  ((.o (.o .h)), (.cells [(.s [99, 111, 100, 101]), (.s [101, 109])] 9 true)),
  ((.o .h), (.cells [(.s [98, 108, 111, 99, 107])] 9 true))]
noncomputable def autoLV : List AV := [(.a [(.l (.o (.o (.o .h))) 0 7 7), (.l (.o (.i (.o .h))) 0 2 2)]), (.s [108, 105])]
noncomputable def autoLN : Ps := (.i (.i (.o .h)))
noncomputable def autoLL1 : Hl := [((.o (.o (.i (.i (.o (.i (.o (.o .h)))))))), (.cells [(.s [112]), (.i .i64 1)] 437 false)),
  ((.o (.i (.i (.o (.i (.i (.o (.o .h)))))))), (.cells [(.s [104]), (.i .i64 1), (.s [104, 114]), (.i .i64 1), (.s [108, 105]), (.i .i64 1), (.s [112]), (.i .i64 1)] 437 false)),
  ((.o (.i (.i (.i (.i (.i (.o (.o .h)))))))), (.cells [(.b false), (.l (.o (.o (.i (.i (.o (.i (.o (.o .h)))))))) 0 1 1), (.b true), (.l (.o (.i (.i (.o (.i (.i (.o (.o .h)))))))) 0 4 4)] 378 false))]
noncomputable def autoLR : AV := (.t [(.a [(.l (.o (.i (.i (.i (.i (.i (.o (.o .h)))))))) 0 2 2)]), (.i .i64 0)])
set_option maxRecDepth 10000000 in
theorem autoL_run : goF (tabC Tryz.prog tabT 100000 fl) toldN 60 170 autoLV ⟨tabH autoLL, autoLN⟩ (Go.Ev.toldN autoLL autoLL1 autoLR) = true := by kernel_rfl
theorem autoL_ok {B : Nat → Prop} {W : World} (hG : GOk B W tabT) : IntrOk Tryz.prog B W 170 (memN autoLL autoLL1 autoLV autoLR) :=
  memN_of_run (by kernel_rfl) fl_ok (fun _ _ h => toldN_ok h) autoL_run hG
noncomputable def openML : Hl := [((.o (.i (.o .h))), (.cells [(.s [101, 109]), .l0, .l0, (.s [99, 111, 100, 101]), (.l (.i (.o (.o .h))) 0 1 1), .l0] 72 true)),
  ((.i (.o (.o .h))), (.cells [(.s [101, 109])] 9 true)),
  ((.i (.o (.i .h))), (.cells [(.s [100, 111, 99]), (.s []), .l0, (.b false), .l0, .l0, (.s [116, 101, 120, 116]), (.s []), .l0, (.b true), .l0, .l0] 70 true))]
noncomputable def openMV : List AV := [(.a [(.l (.i (.o (.i .h))) 0 2 2), (.l (.o (.i (.o .h))) 0 2 2)])]
noncomputable def openMN : Ps := (.o (.i (.i .h)))
noncomputable def openML1 : Hl := [((.i (.o (.i (.o .h)))), (.cells [(.s [100, 111, 99]), (.s []), .l0, (.b false), .l0, .l0, (.s [116, 101, 120, 116]), (.s []), .l0, (.b true), .l0, .l0] 70 false)),
  ((.o (.i (.o (.o .h)))), (.map [] 0)),
  ((.o (.o (.i (.i (.o (.i .h)))))), (.cells [(.i .i64 2), (.s []), (.i .i64 0), (.i .i64 0), .l0, (.i .i64 2), (.s []), (.i .i64 0), (.i .i64 0), .l0] 305 false))]
noncomputable def openMR : AV := (.t [(.a [(.l (.i (.o (.i (.o .h)))) 0 2 2), (.l (.o (.i (.o .h))) 0 2 2), (.i .u32 2), (.m (.o (.i (.o (.o .h))))), (.l (.o (.o (.i (.i (.o (.i .h)))))) 0 2 2), (.i .u32 1)]), (.b true)])
set_option maxRecDepth 10000000 in
theorem openM_run : goF (tabC Tryz.prog tabT 100000 fl) toldN 60 110 openMV ⟨tabH openML, openMN⟩ (Go.Ev.toldN openML openML1 openMR) = true := by kernel_rfl
theorem openM_ok {B : Nat → Prop} {W : World} (hG : GOk B W tabT) : IntrOk Tryz.prog B W 110 (memN openML openML1 openMV openMR) :=
  memN_of_run (by kernel_rfl) fl_ok (fun _ _ h => toldN_ok h) openM_run hG
noncomputable def toldA : PT Intr := (toldN.set (some (orI (memN autoDL autoDL1 autoDV autoDR) (orI (memN autoPL autoPL1 autoPV autoPR) (memN autoLL autoLL1 autoLV autoLR)))) (psOf 170)).set (some (orI (memN openPL openPL1 openPV openPR) (orI (memN openBL openBL1 openBV openBR) (memN openML openML1 openMV openMR)))) (psOf 110)
theorem toldA_ok {B : Nat → Prop} {W : World} (hG : GOk B W tabT) : ∀ g f, toldA.get (psOf g) = some f → IntrOk Tryz.prog B W g f :=
  tabI_ok (tabI_ok (toldN_ok hG) (or_ok (autoD_ok hG) (or_ok (autoP_ok hG) (autoL_ok hG)))) (or_ok (openP_ok hG) (or_ok (openB_ok hG) (openM_ok hG)))
end Go.Proofs.YtdbgnhndmmppaaaGreatDoor
