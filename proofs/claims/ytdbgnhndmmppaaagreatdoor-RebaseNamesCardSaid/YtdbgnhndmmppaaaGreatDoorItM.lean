/- maps.Keys of sets of match: laid in plain words. -/
import Derived.Shelf.SlIter.Nil
import Derived.Test.YtdbgnhndmmppaaaGreatDoorProg
namespace Go.Proofs
open Go.Shelf
open Go.RowKit
set_option maxRecDepth 100000
def Tryz.laysKeys_ren : Go.Shelf.Ren := ⟨fun | 7 => 326 | 10 => 370 | n => n, fun | 23 => 428 | 26 => 9 | 3 => 412 | 28 => 367 | 0 => 0 | 27 => 366 | 33 => 162 | 4 => 4 | n => n, fun | n => n⟩
theorem Tryz.laysKeys : Go.Proofs.SlLaysZ.n7 Tryz.prog Tryz.laysKeys_ren := {
  mixed := by kernel_rfl
  f7 := ⟨Tryz.f326.name, by decide, Tryz.func326.trans (congrArg some (by kernel_rfl))⟩
  f10 := ⟨Tryz.f370.name, by decide, Tryz.func370.trans (congrArg some (by kernel_rfl))⟩
  t0 := Tryz.underlying0
  a0 := Tryz.isAgg0
  z0 := Tryz.sizeOf0
  v0 := Tryz.zeroValue0
  t4 := Tryz.underlying4
  a4 := Tryz.isAgg4
  z4 := Tryz.sizeOf4
  v4 := Tryz.zeroValue4
  t23 := Tryz.underlying428
  a23 := Tryz.isAgg428
  z23 := Tryz.sizeOf428
  v23 := Tryz.zeroValue428
  t26 := Tryz.underlying9
  a26 := Tryz.isAgg9
  z26 := Tryz.sizeOf9
  v26 := Tryz.zeroValue9
  t27 := Tryz.underlying366
  a27 := Tryz.isAgg366
  z27 := Tryz.sizeOf366
  v27 := Tryz.zeroValue366
  t28 := Tryz.underlying367
  a28 := Tryz.isAgg367
  z28 := Tryz.sizeOf367
  v28 := Tryz.zeroValue367
  t33 := Tryz.underlying162
  a33 := Tryz.isAgg162
  z33 := Tryz.sizeOf162
  v33 := Tryz.zeroValue162 }
end Go.Proofs
