/- slices.AppendSeq of slices.Values, as the machine has it. -/
import Derived.Test.YtdanhginifohaaaGreatDoorEvV
import Derived.Test.YtdanhginifohaaaGreatDoorItV
namespace Go.Proofs.YtdanhginifohaaaGreatDoor
open Go.RowKit Go.Ev
theorem appVals : AppVals Tryz.prog 9 190 124 :=
  fun Bm b off cap xs w h1 h2 h3 h4 h5 => appendValues_any Bm b off cap xs h1 w h2 h3 h4 h5
end Go.Proofs.YtdanhginifohaaaGreatDoor
