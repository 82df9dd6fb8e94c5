/- slices.Sorted, slices.AppendSeq and maps.Keys of texts: the library's contracts, laid in plain words. -/
import Derived.Shelf.Sort.Plain
import Derived.Shelf.Slices.In.SortNone
import Derived.Shelf.Strconv.Itoa0
import Derived.Shelf.SlIter.Nil
import Derived.Test.YtongmepcpjfdcaaGreatDoorProg
namespace Go.Proofs
open Go.Shelf
open Go.RowKit
set_option maxRecDepth 100000
def Tryz.lays190_ren : Go.Shelf.Ren := ⟨fun | 190 => 261 | 125 => 195 | 258 => 312 | 128 => 251 | 129 => 252 | 302 => 338 | 303 => 339 | 304 => 340 | 305 => 341 | 306 => 342 | 307 => 343 | 308 => 344 | 309 => 345 | 310 => 346 | 333 => 357 | 329 => 294 | 330 => 295 | 334 => 358 | 335 => 359 | 336 => 196 | 344 => 375 | n => n, fun | 31 => 54 | 9 => 9 | 3 => 3 | 46 => 259 | 0 => 0 | 51 => 119 | 53 => 324 | 4 => 4 | 183 => 317 | 182 => 316 | 131 => 163 | 5 => 5 | 218 => 373 | 222 => 377 | 228 => 401 | 229 => 150 | n => n, fun | n => n⟩
theorem Tryz.lays190 : Go.Proofs.Lays.n190 Tryz.prog Tryz.lays190_ren := {
  mixed := by kernel_rfl
  f125 := Tryz.func195.trans (congrArg some (by kernel_rfl))
  f128 := Tryz.func251.trans (congrArg some (by kernel_rfl))
  f129 := Tryz.func252.trans (congrArg some (by kernel_rfl))
  f190 := Tryz.func261.trans (congrArg some (by kernel_rfl))
  f258 := Tryz.func312.trans (congrArg some (by kernel_rfl))
  f302 := Tryz.func338.trans (congrArg some (by kernel_rfl))
  f303 := Tryz.func339.trans (congrArg some (by kernel_rfl))
  f304 := Tryz.func340.trans (congrArg some (by kernel_rfl))
  f305 := Tryz.func341.trans (congrArg some (by kernel_rfl))
  f306 := Tryz.func342.trans (congrArg some (by kernel_rfl))
  f307 := Tryz.func343.trans (congrArg some (by kernel_rfl))
  f308 := Tryz.func344.trans (congrArg some (by kernel_rfl))
  f309 := Tryz.func345.trans (congrArg some (by kernel_rfl))
  f310 := Tryz.func346.trans (congrArg some (by kernel_rfl))
  f329 := Tryz.func294.trans (congrArg some (by kernel_rfl))
  f330 := Tryz.func295.trans (congrArg some (by kernel_rfl))
  f333 := Tryz.func357.trans (congrArg some (by kernel_rfl))
  f334 := Tryz.func358.trans (congrArg some (by kernel_rfl))
  f335 := Tryz.func359.trans (congrArg some (by kernel_rfl))
  f336 := Tryz.func196.trans (congrArg some (by kernel_rfl))
  f344 := Tryz.func375.trans (congrArg some (by kernel_rfl))
  t0 := Tryz.underlying0
  a0 := Tryz.isAgg0
  z0 := Tryz.sizeOf0
  v0 := Tryz.zeroValue0
  t3 := Tryz.underlying3
  a3 := Tryz.isAgg3
  z3 := Tryz.sizeOf3
  v3 := Tryz.zeroValue3
  t4 := Tryz.underlying4
  a4 := Tryz.isAgg4
  z4 := Tryz.sizeOf4
  v4 := Tryz.zeroValue4
  t5 := Tryz.underlying5
  a5 := Tryz.isAgg5
  z5 := Tryz.sizeOf5
  v5 := Tryz.zeroValue5
  t9 := Tryz.underlying9
  a9 := Tryz.isAgg9
  z9 := Tryz.sizeOf9
  v9 := Tryz.zeroValue9
  t31 := Tryz.underlying54
  a31 := Tryz.isAgg54
  z31 := Tryz.sizeOf54
  v31 := Tryz.zeroValue54
  t46 := Tryz.underlying259
  a46 := Tryz.isAgg259
  z46 := Tryz.sizeOf259
  v46 := Tryz.zeroValue259
  t51 := Tryz.underlying119
  a51 := Tryz.isAgg119
  z51 := Tryz.sizeOf119
  v51 := Tryz.zeroValue119
  t53 := Tryz.underlying324
  a53 := Tryz.isAgg324
  z53 := Tryz.sizeOf324
  v53 := Tryz.zeroValue324
  t131 := Tryz.underlying163
  a131 := Tryz.isAgg163
  z131 := Tryz.sizeOf163
  v131 := Tryz.zeroValue163
  t182 := Tryz.underlying316
  a182 := Tryz.isAgg316
  z182 := Tryz.sizeOf316
  v182 := Tryz.zeroValue316
  t183 := Tryz.underlying317
  a183 := Tryz.isAgg317
  z183 := Tryz.sizeOf317
  v183 := Tryz.zeroValue317
  t218 := Tryz.underlying373
  a218 := Tryz.isAgg373
  z218 := Tryz.sizeOf373
  v218 := Tryz.zeroValue373
  t222 := Tryz.underlying377
  a222 := Tryz.isAgg377
  z222 := Tryz.sizeOf377
  v222 := Tryz.zeroValue377
  t228 := Tryz.underlying401
  a228 := Tryz.isAgg401
  z228 := Tryz.sizeOf401
  v228 := Tryz.zeroValue401
  t229 := Tryz.underlying150
  a229 := Tryz.isAgg150
  z229 := Tryz.sizeOf150
  v229 := Tryz.zeroValue150 }
open Go.Sort Go.RowKit in
theorem Tryz.slices_Sort_string (blk off cap : Nat) (ss : List (List UInt8)) (w : World) (hH : Holds encStr w blk off ss.toArray) (hblk : blk < w.heap.size) (hsz : ss.length < 4611686018427387904) :
    Calls Tryz.prog 261 #[.slice (some ⟨blk, off, none⟩) ss.length cap] w fun e w' =>
      e = .returned (.tuple #[]) ∧ ∃ n os, w' = grow (putRow encStr (Sort.ahead w n) blk off (ss.mergeSort fun x y => decide (x ≤ y)).toArray) os := Any.slices_Sort_string Tryz.lays190 blk off cap ss w hH hblk hsz
open Go.RowKit Go.Sort in

theorem Tryz.slices_Sort_string_none (p : Option Addr) (cap : Nat) (w : World) :
    Calls Tryz.prog 261 #[.slice p 0 cap] w fun e w' => e = .returned (.tuple #[]) ∧ w' = w := Any.slices_Sort_string_none Tryz.lays190 p cap w
def Tryz.laysSorted_ren : Go.Shelf.Ren := ⟨fun | 6 => 220 | 8 => 285 | 9 => 261 | 11 => 333 | 13 => 195 | 12 => 312 | 23 => 251 | 24 => 252 | 14 => 338 | 15 => 339 | 16 => 340 | 17 => 341 | 18 => 342 | 19 => 343 | 20 => 344 | 21 => 345 | 22 => 346 | 25 => 357 | 26 => 294 | 27 => 295 | 28 => 358 | 29 => 359 | 30 => 196 | 31 => 375 | n => n, fun | 26 => 9 | 28 => 291 | 24 => 54 | 0 => 0 | 3 => 3 | 37 => 259 | 48 => 119 | 50 => 324 | 4 => 4 | 40 => 317 | 39 => 316 | 45 => 163 | 5 => 5 | 9 => 9 | 51 => 373 | 55 => 377 | 57 => 401 | 58 => 150 | 33 => 207 | n => n, fun | n => n⟩
theorem Tryz.laysSorted : Go.Proofs.SlLaysZ.n6 Tryz.prog Tryz.laysSorted_ren := {
  mixed := by kernel_rfl
  f6 := ⟨Tryz.f220.name, by decide, Tryz.func220.trans (congrArg some (by kernel_rfl))⟩
  f8 := ⟨Tryz.f285.name, by decide, Tryz.func285.trans (congrArg some (by kernel_rfl))⟩
  f11 := ⟨Tryz.f333.name, by decide, Tryz.func333.trans (congrArg some (by kernel_rfl))⟩
  t0 := Tryz.underlying0
  a0 := Tryz.isAgg0
  z0 := Tryz.sizeOf0
  v0 := Tryz.zeroValue0
  t24 := Tryz.underlying54
  a24 := Tryz.isAgg54
  z24 := Tryz.sizeOf54
  v24 := Tryz.zeroValue54
  t26 := Tryz.underlying9
  a26 := Tryz.isAgg9
  z26 := Tryz.sizeOf9
  v26 := Tryz.zeroValue9
  t28 := Tryz.underlying291
  a28 := Tryz.isAgg291
  z28 := Tryz.sizeOf291
  v28 := Tryz.zeroValue291
  i26 := by kernel_rfl }
end Go.Proofs
