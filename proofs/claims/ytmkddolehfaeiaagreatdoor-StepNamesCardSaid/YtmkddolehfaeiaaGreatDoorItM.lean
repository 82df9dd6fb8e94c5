/- maps.Keys of sets of match: laid in plain words. -/
import Derived.Shelf.SlIter.Nil
import Derived.Test.YtmkddolehfaeiaaGreatDoorProg
namespace Go.Proofs
open Go.Shelf
open Go.RowKit
set_option maxRecDepth 100000
def Tryz.laysKeys_ren : Go.Shelf.Ren := ⟨fun | 7 => 305 | 10 => 340 | n => n, fun | 23 => 373 | 26 => 9 | 3 => 357 | 28 => 325 | 0 => 0 | 27 => 324 | 33 => 191 | 4 => 4 | n => n, fun | n => n⟩
theorem Tryz.laysKeys : Go.Proofs.SlLaysZ.n7 Tryz.prog Tryz.laysKeys_ren := {
  mixed := by kernel_rfl
  f7 := ⟨Tryz.f305.name, by decide, Tryz.func305.trans (congrArg some (by kernel_rfl))⟩
  f10 := ⟨Tryz.f340.name, by decide, Tryz.func340.trans (congrArg some (by kernel_rfl))⟩
  t0 := Tryz.underlying0
  a0 := Tryz.isAgg0
  z0 := Tryz.sizeOf0
  v0 := Tryz.zeroValue0
  t4 := Tryz.underlying4
  a4 := Tryz.isAgg4
  z4 := Tryz.sizeOf4
  v4 := Tryz.zeroValue4
  t23 := Tryz.underlying373
  a23 := Tryz.isAgg373
  z23 := Tryz.sizeOf373
  v23 := Tryz.zeroValue373
  t26 := Tryz.underlying9
  a26 := Tryz.isAgg9
  z26 := Tryz.sizeOf9
  v26 := Tryz.zeroValue9
  t27 := Tryz.underlying324
  a27 := Tryz.isAgg324
  z27 := Tryz.sizeOf324
  v27 := Tryz.zeroValue324
  t28 := Tryz.underlying325
  a28 := Tryz.isAgg325
  z28 := Tryz.sizeOf325
  v28 := Tryz.zeroValue325
  t33 := Tryz.underlying191
  a33 := Tryz.isAgg191
  z33 := Tryz.sizeOf191
  v33 := Tryz.zeroValue191 }
end Go.Proofs
