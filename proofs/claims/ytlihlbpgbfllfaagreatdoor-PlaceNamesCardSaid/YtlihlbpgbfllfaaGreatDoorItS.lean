/- maps.Keys of a map from texts to schema's sets: the library's contract, laid in plain words. -/
import Derived.Shelf.SlIter.Nil
import Derived.Test.YtlihlbpgbfllfaaGreatDoorProg
namespace Go.Proofs
open Go.Shelf
open Go.RowKit
set_option maxRecDepth 100000
def Tryz.laysKeysS_ren : Go.Shelf.Ren := ⟨fun | 7 => 75 | 10 => 124 | n => n, fun | 23 => 135 | 26 => 9 | 3 => 134 | 28 => 181 | 0 => 0 | 27 => 180 | 33 => 203 | 4 => 4 | n => n, fun | n => n⟩
theorem Tryz.laysKeysS : Go.Proofs.SlLaysZ.n7 Tryz.prog Tryz.laysKeysS_ren := {
  mixed := by kernel_rfl
  f7 := ⟨Tryz.f75.name, by decide, Tryz.func75.trans (congrArg some (by kernel_rfl))⟩
  f10 := ⟨Tryz.f124.name, by decide, Tryz.func124.trans (congrArg some (by kernel_rfl))⟩
  t0 := Tryz.underlying0
  a0 := Tryz.isAgg0
  z0 := Tryz.sizeOf0
  v0 := Tryz.zeroValue0
  t4 := Tryz.underlying4
  a4 := Tryz.isAgg4
  z4 := Tryz.sizeOf4
  v4 := Tryz.zeroValue4
  t23 := Tryz.underlying135
  a23 := Tryz.isAgg135
  z23 := Tryz.sizeOf135
  v23 := Tryz.zeroValue135
  t26 := Tryz.underlying9
  a26 := Tryz.isAgg9
  z26 := Tryz.sizeOf9
  v26 := Tryz.zeroValue9
  t27 := Tryz.underlying180
  a27 := Tryz.isAgg180
  z27 := Tryz.sizeOf180
  v27 := Tryz.zeroValue180
  t28 := Tryz.underlying181
  a28 := Tryz.isAgg181
  z28 := Tryz.sizeOf181
  v28 := Tryz.zeroValue181
  t33 := Tryz.underlying203
  a33 := Tryz.isAgg203
  z33 := Tryz.sizeOf203
  v33 := Tryz.zeroValue203 }
end Go.Proofs
