/- maps.Keys of a map from texts to schema's sets: the library's contract, laid in plain words. -/
import Derived.Shelf.SlIter.Nil
import Derived.Test.YtongmepcpjfdcaaGreatDoorProg
namespace Go.Proofs
open Go.Shelf
open Go.RowKit
set_option maxRecDepth 100000
def Tryz.laysKeysS_ren : Go.Shelf.Ren := ⟨fun | 7 => 221 | 10 => 286 | n => n, fun | 23 => 121 | 26 => 9 | 3 => 120 | 28 => 291 | 0 => 0 | 27 => 290 | 33 => 207 | 4 => 4 | n => n, fun | n => n⟩
theorem Tryz.laysKeysS : Go.Proofs.SlLaysZ.n7 Tryz.prog Tryz.laysKeysS_ren := {
  mixed := by kernel_rfl
  f7 := ⟨Tryz.f221.name, by decide, Tryz.func221.trans (congrArg some (by kernel_rfl))⟩
  f10 := ⟨Tryz.f286.name, by decide, Tryz.func286.trans (congrArg some (by kernel_rfl))⟩
  t0 := Tryz.underlying0
  a0 := Tryz.isAgg0
  z0 := Tryz.sizeOf0
  v0 := Tryz.zeroValue0
  t4 := Tryz.underlying4
  a4 := Tryz.isAgg4
  z4 := Tryz.sizeOf4
  v4 := Tryz.zeroValue4
  t23 := Tryz.underlying121
  a23 := Tryz.isAgg121
  z23 := Tryz.sizeOf121
  v23 := Tryz.zeroValue121
  t26 := Tryz.underlying9
  a26 := Tryz.isAgg9
  z26 := Tryz.sizeOf9
  v26 := Tryz.zeroValue9
  t27 := Tryz.underlying290
  a27 := Tryz.isAgg290
  z27 := Tryz.sizeOf290
  v27 := Tryz.zeroValue290
  t28 := Tryz.underlying291
  a28 := Tryz.isAgg291
  z28 := Tryz.sizeOf291
  v28 := Tryz.zeroValue291
  t33 := Tryz.underlying207
  a33 := Tryz.isAgg207
  z33 := Tryz.sizeOf207
  v33 := Tryz.zeroValue207 }
end Go.Proofs
