/- maps.Keys of sets of match: laid in plain words. -/
import Derived.Shelf.SlIter.Nil
import Derived.Test.YtkeillekikbhoaaGreatDoorProg
namespace Go.Proofs
open Go.Shelf
open Go.RowKit
set_option maxRecDepth 100000
def Tryz.laysKeys_ren : Go.Shelf.Ren := ⟨fun | 7 => 254 | 10 => 289 | n => n, fun | 23 => 307 | 26 => 9 | 3 => 291 | 28 => 258 | 0 => 0 | 27 => 257 | 33 => 149 | 4 => 4 | n => n, fun | n => n⟩
theorem Tryz.laysKeys : Go.Proofs.SlLaysZ.n7 Tryz.prog Tryz.laysKeys_ren := {
  mixed := by kernel_rfl
  f7 := ⟨Tryz.f254.name, by decide, Tryz.func254.trans (congrArg some (by kernel_rfl))⟩
  f10 := ⟨Tryz.f289.name, by decide, Tryz.func289.trans (congrArg some (by kernel_rfl))⟩
  t0 := Tryz.underlying0
  a0 := Tryz.isAgg0
  z0 := Tryz.sizeOf0
  v0 := Tryz.zeroValue0
  t4 := Tryz.underlying4
  a4 := Tryz.isAgg4
  z4 := Tryz.sizeOf4
  v4 := Tryz.zeroValue4
  t23 := Tryz.underlying307
  a23 := Tryz.isAgg307
  z23 := Tryz.sizeOf307
  v23 := Tryz.zeroValue307
  t26 := Tryz.underlying9
  a26 := Tryz.isAgg9
  z26 := Tryz.sizeOf9
  v26 := Tryz.zeroValue9
  t27 := Tryz.underlying257
  a27 := Tryz.isAgg257
  z27 := Tryz.sizeOf257
  v27 := Tryz.zeroValue257
  t28 := Tryz.underlying258
  a28 := Tryz.isAgg258
  z28 := Tryz.sizeOf258
  v28 := Tryz.zeroValue258
  t33 := Tryz.underlying149
  a33 := Tryz.isAgg149
  z33 := Tryz.sizeOf149
  v33 := Tryz.zeroValue149 }
end Go.Proofs
