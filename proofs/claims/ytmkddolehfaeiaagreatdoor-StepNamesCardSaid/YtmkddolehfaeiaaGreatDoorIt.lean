/- slices.Sorted, slices.AppendSeq and maps.Keys of texts: the library's contracts, laid in plain words. -/
import Derived.Shelf.Sort.Plain
import Derived.Shelf.Slices.In.SortNone
import Derived.Shelf.Strconv.Itoa0
import Derived.Shelf.SlIter.Nil
import Derived.Test.YtmkddolehfaeiaaGreatDoorProg
namespace Go.Proofs
open Go.Shelf
open Go.RowKit
set_option maxRecDepth 100000
def Tryz.lays190_ren : Go.Shelf.Ren := ⟨fun | 190 => 250 | 125 => 201 | 258 => 289 | 128 => 240 | 129 => 241 | 302 => 321 | 303 => 322 | 304 => 323 | 305 => 324 | 306 => 325 | 307 => 326 | 308 => 327 | 309 => 328 | 310 => 329 | 333 => 354 | 329 => 271 | 330 => 272 | 334 => 355 | 335 => 356 | 336 => 202 | 344 => 365 | n => n, fun | 31 => 67 | 9 => 9 | 3 => 3 | 46 => 260 | 0 => 0 | 51 => 121 | 53 => 303 | 4 => 4 | 183 => 296 | 182 => 295 | 131 => 219 | 5 => 5 | 218 => 337 | 222 => 341 | 228 => 386 | 229 => 107 | n => n, fun | n => n⟩
theorem Tryz.lays190 : Go.Proofs.Lays.n190 Tryz.prog Tryz.lays190_ren := {
  mixed := by kernel_rfl
  f125 := Tryz.func201.trans (congrArg some (by kernel_rfl))
  f128 := Tryz.func240.trans (congrArg some (by kernel_rfl))
  f129 := Tryz.func241.trans (congrArg some (by kernel_rfl))
  f190 := Tryz.func250.trans (congrArg some (by kernel_rfl))
  f258 := Tryz.func289.trans (congrArg some (by kernel_rfl))
  f302 := Tryz.func321.trans (congrArg some (by kernel_rfl))
  f303 := Tryz.func322.trans (congrArg some (by kernel_rfl))
  f304 := Tryz.func323.trans (congrArg some (by kernel_rfl))
  f305 := Tryz.func324.trans (congrArg some (by kernel_rfl))
  f306 := Tryz.func325.trans (congrArg some (by kernel_rfl))
  f307 := Tryz.func326.trans (congrArg some (by kernel_rfl))
  f308 := Tryz.func327.trans (congrArg some (by kernel_rfl))
  f309 := Tryz.func328.trans (congrArg some (by kernel_rfl))
  f310 := Tryz.func329.trans (congrArg some (by kernel_rfl))
  f329 := Tryz.func271.trans (congrArg some (by kernel_rfl))
  f330 := Tryz.func272.trans (congrArg some (by kernel_rfl))
  f333 := Tryz.func354.trans (congrArg some (by kernel_rfl))
  f334 := Tryz.func355.trans (congrArg some (by kernel_rfl))
  f335 := Tryz.func356.trans (congrArg some (by kernel_rfl))
  f336 := Tryz.func202.trans (congrArg some (by kernel_rfl))
  f344 := Tryz.func365.trans (congrArg some (by kernel_rfl))
  t0 := Tryz.underlying0
  a0 := Tryz.isAgg0
  z0 := Tryz.sizeOf0
  v0 := Tryz.zeroValue0
  t3 := Tryz.underlying3
  a3 := Tryz.isAgg3
  z3 := Tryz.sizeOf3
  v3 := Tryz.zeroValue3
  t4 := Tryz.underlying4
  a4 := Tryz.isAgg4
  z4 := Tryz.sizeOf4
  v4 := Tryz.zeroValue4
  t5 := Tryz.underlying5
  a5 := Tryz.isAgg5
  z5 := Tryz.sizeOf5
  v5 := Tryz.zeroValue5
  t9 := Tryz.underlying9
  a9 := Tryz.isAgg9
  z9 := Tryz.sizeOf9
  v9 := Tryz.zeroValue9
  t31 := Tryz.underlying67
  a31 := Tryz.isAgg67
  z31 := Tryz.sizeOf67
  v31 := Tryz.zeroValue67
  t46 := Tryz.underlying260
  a46 := Tryz.isAgg260
  z46 := Tryz.sizeOf260
  v46 := Tryz.zeroValue260
  t51 := Tryz.underlying121
  a51 := Tryz.isAgg121
  z51 := Tryz.sizeOf121
  v51 := Tryz.zeroValue121
  t53 := Tryz.underlying303
  a53 := Tryz.isAgg303
  z53 := Tryz.sizeOf303
  v53 := Tryz.zeroValue303
  t131 := Tryz.underlying219
  a131 := Tryz.isAgg219
  z131 := Tryz.sizeOf219
  v131 := Tryz.zeroValue219
  t182 := Tryz.underlying295
  a182 := Tryz.isAgg295
  z182 := Tryz.sizeOf295
  v182 := Tryz.zeroValue295
  t183 := Tryz.underlying296
  a183 := Tryz.isAgg296
  z183 := Tryz.sizeOf296
  v183 := Tryz.zeroValue296
  t218 := Tryz.underlying337
  a218 := Tryz.isAgg337
  z218 := Tryz.sizeOf337
  v218 := Tryz.zeroValue337
  t222 := Tryz.underlying341
  a222 := Tryz.isAgg341
  z222 := Tryz.sizeOf341
  v222 := Tryz.zeroValue341
  t228 := Tryz.underlying386
  a228 := Tryz.isAgg386
  z228 := Tryz.sizeOf386
  v228 := Tryz.zeroValue386
  t229 := Tryz.underlying107
  a229 := Tryz.isAgg107
  z229 := Tryz.sizeOf107
  v229 := Tryz.zeroValue107 }
open Go.Sort Go.RowKit in
theorem Tryz.slices_Sort_string (blk off cap : Nat) (ss : List (List UInt8)) (w : World) (hH : Holds encStr w blk off ss.toArray) (hblk : blk < w.heap.size) (hsz : ss.length < 4611686018427387904) :
    Calls Tryz.prog 250 #[.slice (some ⟨blk, off, none⟩) ss.length cap] w fun e w' =>
      e = .returned (.tuple #[]) ∧ ∃ n os, w' = grow (putRow encStr (Sort.ahead w n) blk off (ss.mergeSort fun x y => decide (x ≤ y)).toArray) os := Any.slices_Sort_string Tryz.lays190 blk off cap ss w hH hblk hsz
open Go.RowKit Go.Sort in

theorem Tryz.slices_Sort_string_none (p : Option Addr) (cap : Nat) (w : World) :
    Calls Tryz.prog 250 #[.slice p 0 cap] w fun e w' => e = .returned (.tuple #[]) ∧ w' = w := Any.slices_Sort_string_none Tryz.lays190 p cap w
def Tryz.laysSorted_ren : Go.Shelf.Ren := ⟨fun | 6 => 263 | 8 => 309 | 9 => 250 | 11 => 346 | 13 => 201 | 12 => 289 | 23 => 240 | 24 => 241 | 14 => 321 | 15 => 322 | 16 => 323 | 17 => 324 | 18 => 325 | 19 => 326 | 20 => 327 | 21 => 328 | 22 => 329 | 25 => 354 | 26 => 271 | 27 => 272 | 28 => 355 | 29 => 356 | 30 => 202 | 31 => 365 | n => n, fun | 26 => 9 | 28 => 325 | 24 => 67 | 0 => 0 | 3 => 3 | 37 => 260 | 48 => 121 | 50 => 303 | 4 => 4 | 40 => 296 | 39 => 295 | 45 => 219 | 5 => 5 | 9 => 9 | 51 => 337 | 55 => 341 | 57 => 386 | 58 => 107 | 33 => 191 | n => n, fun | n => n⟩
theorem Tryz.laysSorted : Go.Proofs.SlLaysZ.n6 Tryz.prog Tryz.laysSorted_ren := {
  mixed := by kernel_rfl
  f6 := ⟨Tryz.f263.name, by decide, Tryz.func263.trans (congrArg some (by kernel_rfl))⟩
  f8 := ⟨Tryz.f309.name, by decide, Tryz.func309.trans (congrArg some (by kernel_rfl))⟩
  f11 := ⟨Tryz.f346.name, by decide, Tryz.func346.trans (congrArg some (by kernel_rfl))⟩
  t0 := Tryz.underlying0
  a0 := Tryz.isAgg0
  z0 := Tryz.sizeOf0
  v0 := Tryz.zeroValue0
  t24 := Tryz.underlying67
  a24 := Tryz.isAgg67
  z24 := Tryz.sizeOf67
  v24 := Tryz.zeroValue67
  t26 := Tryz.underlying9
  a26 := Tryz.isAgg9
  z26 := Tryz.sizeOf9
  v26 := Tryz.zeroValue9
  t28 := Tryz.underlying325
  a28 := Tryz.isAgg325
  z28 := Tryz.sizeOf325
  v28 := Tryz.zeroValue325
  i26 := by kernel_rfl }
end Go.Proofs
