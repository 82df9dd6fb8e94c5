/- slices.Sorted, slices.AppendSeq and maps.Keys of texts: the library's contracts, laid in plain words. -/
import Derived.Shelf.Sort.Plain
import Derived.Shelf.Slices.In.SortNone
import Derived.Shelf.Strconv.Itoa0
import Derived.Shelf.SlIter.Nil
import Derived.Test.YtdbgnhndmmppaaaGreatDoorProg
namespace Go.Proofs
open Go.Shelf
open Go.RowKit
set_option maxRecDepth 100000
def Tryz.lays190_ren : Go.Shelf.Ren := ⟨fun | 190 => 306 | 125 => 255 | 258 => 355 | 128 => 296 | 129 => 297 | 302 => 381 | 303 => 382 | 304 => 383 | 305 => 384 | 306 => 385 | 307 => 386 | 308 => 387 | 309 => 388 | 310 => 389 | 333 => 400 | 329 => 337 | 330 => 338 | 334 => 401 | 335 => 402 | 336 => 81 | 344 => 418 | n => n, fun | 31 => 65 | 9 => 9 | 3 => 3 | 46 => 337 | 0 => 0 | 51 => 194 | 53 => 393 | 4 => 4 | 183 => 386 | 182 => 385 | 131 => 223 | 5 => 5 | 218 => 439 | 222 => 443 | 228 => 467 | 229 => 188 | n => n, fun | n => n⟩
theorem Tryz.lays190 : Go.Proofs.Lays.n190 Tryz.prog Tryz.lays190_ren := {
  mixed := by kernel_rfl
  f125 := Tryz.func255.trans (congrArg some (by kernel_rfl))
  f128 := Tryz.func296.trans (congrArg some (by kernel_rfl))
  f129 := Tryz.func297.trans (congrArg some (by kernel_rfl))
  f190 := Tryz.func306.trans (congrArg some (by kernel_rfl))
  f258 := Tryz.func355.trans (congrArg some (by kernel_rfl))
  f302 := Tryz.func381.trans (congrArg some (by kernel_rfl))
  f303 := Tryz.func382.trans (congrArg some (by kernel_rfl))
  f304 := Tryz.func383.trans (congrArg some (by kernel_rfl))
  f305 := Tryz.func384.trans (congrArg some (by kernel_rfl))
  f306 := Tryz.func385.trans (congrArg some (by kernel_rfl))
  f307 := Tryz.func386.trans (congrArg some (by kernel_rfl))
  f308 := Tryz.func387.trans (congrArg some (by kernel_rfl))
  f309 := Tryz.func388.trans (congrArg some (by kernel_rfl))
  f310 := Tryz.func389.trans (congrArg some (by kernel_rfl))
  f329 := Tryz.func337.trans (congrArg some (by kernel_rfl))
  f330 := Tryz.func338.trans (congrArg some (by kernel_rfl))
  f333 := Tryz.func400.trans (congrArg some (by kernel_rfl))
  f334 := Tryz.func401.trans (congrArg some (by kernel_rfl))
  f335 := Tryz.func402.trans (congrArg some (by kernel_rfl))
  f336 := Tryz.func81.trans (congrArg some (by kernel_rfl))
  f344 := Tryz.func418.trans (congrArg some (by kernel_rfl))
  t0 := Tryz.underlying0
  a0 := Tryz.isAgg0
  z0 := Tryz.sizeOf0
  v0 := Tryz.zeroValue0
  t3 := Tryz.underlying3
  a3 := Tryz.isAgg3
  z3 := Tryz.sizeOf3
  v3 := Tryz.zeroValue3
  t4 := Tryz.underlying4
  a4 := Tryz.isAgg4
  z4 := Tryz.sizeOf4
  v4 := Tryz.zeroValue4
  t5 := Tryz.underlying5
  a5 := Tryz.isAgg5
  z5 := Tryz.sizeOf5
  v5 := Tryz.zeroValue5
  t9 := Tryz.underlying9
  a9 := Tryz.isAgg9
  z9 := Tryz.sizeOf9
  v9 := Tryz.zeroValue9
  t31 := Tryz.underlying65
  a31 := Tryz.isAgg65
  z31 := Tryz.sizeOf65
  v31 := Tryz.zeroValue65
  t46 := Tryz.underlying337
  a46 := Tryz.isAgg337
  z46 := Tryz.sizeOf337
  v46 := Tryz.zeroValue337
  t51 := Tryz.underlying194
  a51 := Tryz.isAgg194
  z51 := Tryz.sizeOf194
  v51 := Tryz.zeroValue194
  t53 := Tryz.underlying393
  a53 := Tryz.isAgg393
  z53 := Tryz.sizeOf393
  v53 := Tryz.zeroValue393
  t131 := Tryz.underlying223
  a131 := Tryz.isAgg223
  z131 := Tryz.sizeOf223
  v131 := Tryz.zeroValue223
  t182 := Tryz.underlying385
  a182 := Tryz.isAgg385
  z182 := Tryz.sizeOf385
  v182 := Tryz.zeroValue385
  t183 := Tryz.underlying386
  a183 := Tryz.isAgg386
  z183 := Tryz.sizeOf386
  v183 := Tryz.zeroValue386
  t218 := Tryz.underlying439
  a218 := Tryz.isAgg439
  z218 := Tryz.sizeOf439
  v218 := Tryz.zeroValue439
  t222 := Tryz.underlying443
  a222 := Tryz.isAgg443
  z222 := Tryz.sizeOf443
  v222 := Tryz.zeroValue443
  t228 := Tryz.underlying467
  a228 := Tryz.isAgg467
  z228 := Tryz.sizeOf467
  v228 := Tryz.zeroValue467
  t229 := Tryz.underlying188
  a229 := Tryz.isAgg188
  z229 := Tryz.sizeOf188
  v229 := Tryz.zeroValue188 }
open Go.Sort Go.RowKit in
theorem Tryz.slices_Sort_string (blk off cap : Nat) (ss : List (List UInt8)) (w : World) (hH : Holds encStr w blk off ss.toArray) (hblk : blk < w.heap.size) (hsz : ss.length < 4611686018427387904) :
    Calls Tryz.prog 306 #[.slice (some ⟨blk, off, none⟩) ss.length cap] w fun e w' =>
      e = .returned (.tuple #[]) ∧ ∃ n os, w' = grow (putRow encStr (Sort.ahead w n) blk off (ss.mergeSort fun x y => decide (x ≤ y)).toArray) os := Any.slices_Sort_string Tryz.lays190 blk off cap ss w hH hblk hsz
open Go.RowKit Go.Sort in

theorem Tryz.slices_Sort_string_none (p : Option Addr) (cap : Nat) (w : World) :
    Calls Tryz.prog 306 #[.slice p 0 cap] w fun e w' => e = .returned (.tuple #[]) ∧ w' = w := Any.slices_Sort_string_none Tryz.lays190 p cap w
def Tryz.laysSorted_ren : Go.Shelf.Ren := ⟨fun | 6 => 277 | 8 => 330 | 9 => 306 | 11 => 376 | 13 => 255 | 12 => 355 | 23 => 296 | 24 => 297 | 14 => 381 | 15 => 382 | 16 => 383 | 17 => 384 | 18 => 385 | 19 => 386 | 20 => 387 | 21 => 388 | 22 => 389 | 25 => 400 | 26 => 337 | 27 => 338 | 28 => 401 | 29 => 402 | 30 => 81 | 31 => 418 | n => n, fun | 26 => 9 | 28 => 367 | 24 => 65 | 0 => 0 | 3 => 3 | 37 => 337 | 48 => 194 | 50 => 393 | 4 => 4 | 40 => 386 | 39 => 385 | 45 => 223 | 5 => 5 | 9 => 9 | 51 => 439 | 55 => 443 | 57 => 467 | 58 => 188 | 33 => 162 | n => n, fun | n => n⟩
theorem Tryz.laysSorted : Go.Proofs.SlLaysZ.n6 Tryz.prog Tryz.laysSorted_ren := {
  mixed := by kernel_rfl
  f6 := ⟨Tryz.f277.name, by decide, Tryz.func277.trans (congrArg some (by kernel_rfl))⟩
  f8 := ⟨Tryz.f330.name, by decide, Tryz.func330.trans (congrArg some (by kernel_rfl))⟩
  f11 := ⟨Tryz.f376.name, by decide, Tryz.func376.trans (congrArg some (by kernel_rfl))⟩
  t0 := Tryz.underlying0
  a0 := Tryz.isAgg0
  z0 := Tryz.sizeOf0
  v0 := Tryz.zeroValue0
  t24 := Tryz.underlying65
  a24 := Tryz.isAgg65
  z24 := Tryz.sizeOf65
  v24 := Tryz.zeroValue65
  t26 := Tryz.underlying9
  a26 := Tryz.isAgg9
  z26 := Tryz.sizeOf9
  v26 := Tryz.zeroValue9
  t28 := Tryz.underlying367
  a28 := Tryz.isAgg367
  z28 := Tryz.sizeOf367
  v28 := Tryz.zeroValue367
  i26 := by kernel_rfl }
end Go.Proofs
