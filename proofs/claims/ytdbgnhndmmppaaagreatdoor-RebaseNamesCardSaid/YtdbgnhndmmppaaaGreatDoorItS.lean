/- maps.Keys of a map from texts to schema's sets: the library's contract, laid in plain words. -/
import Derived.Shelf.SlIter.Nil
import Derived.Test.YtdbgnhndmmppaaaGreatDoorProg
namespace Go.Proofs
open Go.Shelf
open Go.RowKit
set_option maxRecDepth 100000
def Tryz.laysKeysS_ren : Go.Shelf.Ren := ⟨fun | 7 => 278 | 10 => 331 | n => n, fun | 23 => 196 | 26 => 9 | 3 => 195 | 28 => 367 | 0 => 0 | 27 => 366 | 33 => 162 | 4 => 4 | n => n, fun | n => n⟩
theorem Tryz.laysKeysS : Go.Proofs.SlLaysZ.n7 Tryz.prog Tryz.laysKeysS_ren := {
  mixed := by kernel_rfl
  f7 := ⟨Tryz.f278.name, by decide, Tryz.func278.trans (congrArg some (by kernel_rfl))⟩
  f10 := ⟨Tryz.f331.name, by decide, Tryz.func331.trans (congrArg some (by kernel_rfl))⟩
  t0 := Tryz.underlying0
  a0 := Tryz.isAgg0
  z0 := Tryz.sizeOf0
  v0 := Tryz.zeroValue0
  t4 := Tryz.underlying4
  a4 := Tryz.isAgg4
  z4 := Tryz.sizeOf4
  v4 := Tryz.zeroValue4
  t23 := Tryz.underlying196
  a23 := Tryz.isAgg196
  z23 := Tryz.sizeOf196
  v23 := Tryz.zeroValue196
  t26 := Tryz.underlying9
  a26 := Tryz.isAgg9
  z26 := Tryz.sizeOf9
  v26 := Tryz.zeroValue9
  t27 := Tryz.underlying366
  a27 := Tryz.isAgg366
  z27 := Tryz.sizeOf366
  v27 := Tryz.zeroValue366
  t28 := Tryz.underlying367
  a28 := Tryz.isAgg367
  z28 := Tryz.sizeOf367
  v28 := Tryz.zeroValue367
  t33 := Tryz.underlying162
  a33 := Tryz.isAgg162
  z33 := Tryz.sizeOf162
  v33 := Tryz.zeroValue162 }
end Go.Proofs
