/- schema.open at the kit's Pages, and at what node.bare makes of them: run once, told wherever a call like it comes. -/
import Derived.Test.YtdbgnhndmmppaaaGreatDoorFt
import Derived.Test.YtdbgnhndmmppaaaGreatDoorItX
import Derived.Test.YtdbgnhndmmppaaaGreatDoorItW
import Derived.Test.YtdbgnhndmmppaaaGreatDoorEwH
namespace Go.Proofs.YtdbgnhndmmppaaaGreatDoor
open Go.RowKit Go.Ev
noncomputable def tabT : PT (List AV) := (PT.lf.set (some (tabA .u8 Lib.deBruijn32tab)) (psOf 0)).set (some (tabA .u8 Lib.deBruijn64tab)) (psOf 3)
noncomputable def openPL : Hl := [((.o (.i (.o .h))), (.cells [(.s [101, 109]), .l0, .l0, (.s [99, 111, 100, 101]), (.l (.i (.o (.o .h))) 0 1 1), .l0] 72 true)),
  ((.i (.o (.o .h))), (.cells [(.s [101, 109])] 9 true)),
  ((.o (.o (.o .h))), (.cells [(.s [100, 111, 99]), (.s [98, 108, 111, 99, 107, 43]), .l0, (.b false), .l0, .l0, (.s [112]), (.s [105, 110, 108, 105, 110, 101, 42]), (.l (.o .h) 0 1 1), (.b false), .l0, (.l (.o (.o .h)) 0 2 2), (.s [104]), (.s [116, 101, 120, 116, 42]), (.l (.o .h) 0 1 1), (.b false), (.l (.i .h) 0 1 1), (.l (.i (.o .h)) 0 1 1), (.s [108, 105]), (.s [112, 32, 98, 108, 111, 99, 107, 42]), (.l (.o .h) 0 1 1), (.b false), .l0, .l0, (.s [104, 114]), (.s []), (.l (.o .h) 0 1 1), (.b false), .l0, .l0, (.s [98, 114]), (.s []), (.l (.o (.i .h)) 0 1 1), (.b true), .l0, .l0, (.s [116, 101, 120, 116]), (.s []), (.l (.i (.i .h)) 0 1 1), (.b true), .l0, .l0] 70 true)),
  ((.i (.i .h)), (.cells [(.s [105, 110, 108, 105, 110, 101])] 9 true)),
  ((.o (.i .h)), (.cells [(.s [105, 110, 108, 105, 110, 101])] 9 true)),
  ((.i (.o .h)), (.cells [(.s [101, 109])] 9 true)),
  ((.i .h), (.cells [(.s [108, 101, 118, 101, 108]), (.s [49]), (.b false)] 67 true)),
  ((.o (.o .h)), (.cells [(.s [99, 111, 100, 101]), (.s [101, 109])] 9 true)),
  ((.o .h), (.cells [(.s [98, 108, 111, 99, 107])] 9 true))]
noncomputable def openPV : List AV := [(.a [(.l (.o (.o (.o .h))) 0 7 7), (.l (.o (.i (.o .h))) 0 2 2)])]
noncomputable def openPN : Ps := (.i (.i (.o .h)))
noncomputable def openPL1 : Hl := [((.o (.i (.o (.o .h)))), (.cells [(.s [98, 114]), (.s []), (.l (.o (.i .h)) 0 1 1), (.b true), .l0, .l0, (.s [100, 111, 99]), (.s [98, 108, 111, 99, 107, 43]), .l0, (.b false), .l0, .l0, (.s [104]), (.s [116, 101, 120, 116, 42]), (.l (.o .h) 0 1 1), (.b false), (.l (.i .h) 0 1 1), (.l (.i (.o .h)) 0 1 1), (.s [104, 114]), (.s []), (.l (.o .h) 0 1 1), (.b false), .l0, .l0, (.s [108, 105]), (.s [112, 32, 98, 108, 111, 99, 107, 42]), (.l (.o .h) 0 1 1), (.b false), .l0, .l0, (.s [112]), (.s [105, 110, 108, 105, 110, 101, 42]), (.l (.o .h) 0 1 1), (.b false), .l0, (.l (.o (.o .h)) 0 2 2), (.s [116, 101, 120, 116]), (.s []), (.l (.i (.i .h)) 0 1 1), (.b true), .l0, .l0] 70 false)),
  ((.i (.i (.i .h))), (.map [((.s [105, 110, 108, 105, 110, 101]), (.i .u32 65), 0), ((.s [98, 108, 111, 99, 107]), (.i .u32 60), 1)] 2)),
  ((.i (.o (.o (.i (.i (.i (.o .h))))))), (.cells [(.i .i64 1), (.s [98, 108, 111, 99, 107]), (.i .i64 0), (.i .i64 0), .l0] 305 true)),
  ((.i (.i (.i (.o (.o (.o (.o (.o .h)))))))), (.cells [(.i .i64 1), (.s [116, 101, 120, 116]), (.i .i64 0), (.i .i64 0), .l0] 305 true)),
  ((.o (.i (.o (.i (.i (.i (.i (.o .h)))))))), (.cells [(.i .i64 1), (.s [98, 108, 111, 99, 107]), (.i .i64 0), (.i .i64 0), .l0] 305 true)),
  ((.o (.i (.i (.i (.i (.i (.i (.o .h)))))))), (.cells [(.i .i64 1), (.s [112]), (.i .i64 0), (.i .i64 0), .l0, (.i .i64 4), (.s []), (.i .i64 0), (.i .i64 (-1)), (.l (.o (.i (.o (.i (.i (.i (.i (.o .h)))))))) 0 1 1)] 305 false)),
  ((.i (.i (.i (.i (.i (.i (.i (.i .h)))))))), (.cells [(.i .i64 1), (.s [105, 110, 108, 105, 110, 101]), (.i .i64 0), (.i .i64 0), .l0] 305 true)),
  ((.i (.i (.o (.i (.i (.o (.i (.o (.o .h))))))))), (.cells [(.i .i64 2), (.s []), (.i .i64 0), (.i .i64 0), .l0, (.i .i64 4), (.s []), (.i .i64 1), (.i .i64 (-1)), (.l (.i (.o (.o (.i (.i (.i (.o .h))))))) 0 1 1), (.i .i64 4), (.s []), (.i .i64 0), (.i .i64 (-1)), (.l (.i (.i (.i (.o (.o (.o (.o (.o .h)))))))) 0 1 1), (.i .i64 2), (.s []), (.i .i64 0), (.i .i64 0), .l0, (.i .i64 2), (.s []), (.i .i64 0), (.i .i64 0), (.l (.o (.i (.i (.i (.i (.i (.i (.o .h)))))))) 0 2 2), (.i .i64 4), (.s []), (.i .i64 0), (.i .i64 (-1)), (.l (.i (.i (.i (.i (.i (.i (.i (.i .h)))))))) 0 1 1), (.i .i64 2), (.s []), (.i .i64 0), (.i .i64 0), .l0] 305 false))]
noncomputable def openPR : AV := (.t [(.a [(.l (.o (.i (.o (.o .h)))) 0 7 7), (.l (.o (.i (.o .h))) 0 2 2), (.i .u32 65), (.m (.i (.i (.i .h)))), (.l (.i (.i (.o (.i (.i (.o (.i (.o (.o .h))))))))) 0 7 7), (.i .u32 63)]), (.b true)])
set_option maxRecDepth 10000000 in
theorem openP_run : goF (tabC Tryz.prog tabT 100000 fl) .lf 60 110 openPV ⟨tabH openPL, openPN⟩ (toldN openPL openPL1 openPR) = true := by kernel_rfl
theorem openP_ok {B : Nat → Prop} {W : World} (hG : GOk B W tabT) : IntrOk Tryz.prog B W 110 (memN openPL openPL1 openPV openPR) :=
  memN_of_run (by kernel_rfl) fl_ok (fun _ _ h => tabI_lf) openP_run hG
noncomputable def openBL : Hl := [((.o (.i (.o .h))), (.cells [(.s [101, 109]), .l0, .l0, (.s [99, 111, 100, 101]), (.l (.i (.o (.o .h))) 0 1 1), .l0] 72 true)),
  ((.i (.o (.o .h))), (.cells [(.s [101, 109])] 9 true)),
  ((.o (.i (.o (.o (.o .h))))), (.cells [(.s [100, 111, 99]), (.s []), .l0, (.b false), .l0, .l0, (.s [112]), (.s []), .l0, (.b false), .l0, (.l (.o (.o .h)) 0 2 2), (.s [104]), (.s []), .l0, (.b false), .l0, (.l (.i (.o .h)) 0 1 1), (.s [108, 105]), (.s []), .l0, (.b false), .l0, .l0, (.s [104, 114]), (.s []), .l0, (.b false), .l0, .l0, (.s [98, 114]), (.s []), .l0, (.b true), .l0, .l0, (.s [116, 101, 120, 116]), (.s []), .l0, (.b true), .l0, .l0] 70 false)),
  ((.i (.o .h)), (.cells [(.s [101, 109])] 9 true)),
  ((.o (.o .h)), (.cells [(.s [99, 111, 100, 101]), (.s [101, 109])] 9 true))]
noncomputable def openBV : List AV := [(.a [(.l (.o (.i (.o (.o (.o .h))))) 0 7 7), (.l (.o (.i (.o .h))) 0 2 2)])]
noncomputable def openBN : Ps := (.i (.i (.o (.o (.o .h)))))
noncomputable def openBL1 : Hl := [((.o (.i (.o (.i (.o .h))))), (.cells [(.s [98, 114]), (.s []), .l0, (.b true), .l0, .l0, (.s [100, 111, 99]), (.s []), .l0, (.b false), .l0, .l0, (.s [104]), (.s []), .l0, (.b false), .l0, (.l (.i (.o .h)) 0 1 1), (.s [104, 114]), (.s []), .l0, (.b false), .l0, .l0, (.s [108, 105]), (.s []), .l0, (.b false), .l0, .l0, (.s [112]), (.s []), .l0, (.b false), .l0, (.l (.o (.o .h)) 0 2 2), (.s [116, 101, 120, 116]), (.s []), .l0, (.b true), .l0, .l0] 70 false)),
  ((.i (.i (.i (.o (.o .h))))), (.map [] 0)),
  ((.i (.i (.i (.i (.i (.i (.o (.o .h)))))))), (.cells [(.i .i64 2), (.s []), (.i .i64 0), (.i .i64 0), .l0, (.i .i64 2), (.s []), (.i .i64 0), (.i .i64 0), .l0, (.i .i64 2), (.s []), (.i .i64 0), (.i .i64 0), .l0, (.i .i64 2), (.s []), (.i .i64 0), (.i .i64 0), .l0, (.i .i64 2), (.s []), (.i .i64 0), (.i .i64 0), .l0, (.i .i64 2), (.s []), (.i .i64 0), (.i .i64 0), .l0, (.i .i64 2), (.s []), (.i .i64 0), (.i .i64 0), .l0] 305 false))]
noncomputable def openBR : AV := (.t [(.a [(.l (.o (.i (.o (.i (.o .h))))) 0 7 7), (.l (.o (.i (.o .h))) 0 2 2), (.i .u32 65), (.m (.i (.i (.i (.o (.o .h)))))), (.l (.i (.i (.i (.i (.i (.i (.o (.o .h)))))))) 0 7 7), (.i .u32 63)]), (.b true)])
set_option maxRecDepth 10000000 in
theorem openB_run : goF (tabC Tryz.prog tabT 100000 fl) .lf 60 110 openBV ⟨tabH openBL, openBN⟩ (toldN openBL openBL1 openBR) = true := by kernel_rfl
theorem openB_ok {B : Nat → Prop} {W : World} (hG : GOk B W tabT) : IntrOk Tryz.prog B W 110 (memN openBL openBL1 openBV openBR) :=
  memN_of_run (by kernel_rfl) fl_ok (fun _ _ h => tabI_lf) openB_run hG
end Go.Proofs.YtdbgnhndmmppaaaGreatDoor
