/- Ft, It, ItM, ItW, ItV, ItY, MatchLivesRun, merged. -/
import Derived.Test.YtkbileabkfccgaaGreatDoorCz35
import Derived.Test.YtkbileabkfccgaaGreatDoorProg
import Derived.Shelf.Sort.Plain
import Derived.Shelf.Slices.In.SortNone
import Derived.Shelf.Strconv.Itoa0
import Derived.Shelf.SlIter.Nil
import Derived.Test.YtkbileabkfccgaaGreatDoorCz36

/- The functions of the program, by their numbers: of one seat: made anew for each by wip/tools/mkft.py. -/
namespace Go.Proofs.YtkbileabkfccgaaGreatDoor
open Go.Ev
set_option maxRecDepth 100000
noncomputable def fl : List (Nat × Func) := [(2, Tryz.f2), (3, Tryz.f3), (4, Tryz.f4), (5, Tryz.f5), (6, Tryz.f6), (7, Tryz.f7), (8, Tryz.f8), (9, Tryz.f9), (10, Tryz.f10), (11, Tryz.f11), (12, Tryz.f12), (13, Tryz.f13), (14, Tryz.f14), (15, Tryz.f15), (16, Tryz.f16), (17, Tryz.f17), (18, Tryz.f18), (19, Tryz.f19), (20, Tryz.f20), (21, Tryz.f21), (22, Tryz.f22), (23, Tryz.f23), (24, Tryz.f24), (25, Tryz.f25), (26, Tryz.f26), (27, Tryz.f27), (28, Tryz.f28), (29, Tryz.f29), (30, Tryz.f30), (31, Tryz.f31), (32, Tryz.f32), (33, Tryz.f33), (34, Tryz.f34), (35, Tryz.f35), (36, Tryz.f36), (37, Tryz.f37), (38, Tryz.f38), (39, Tryz.f39), (40, Tryz.f40), (41, Tryz.f41), (42, Tryz.f42), (43, Tryz.f43), (44, Tryz.f44), (45, Tryz.f45), (46, Tryz.f46), (47, Tryz.f47), (48, Tryz.f48), (49, Tryz.f49), (50, Tryz.f50), (51, Tryz.f51), (52, Tryz.f52), (53, Tryz.f53), (54, Tryz.f54), (55, Tryz.f55), (56, Tryz.f56), (57, Tryz.f57), (58, Tryz.f58), (59, Tryz.f59), (60, Tryz.f60), (61, Tryz.f61), (62, Tryz.f62), (63, Tryz.f63), (64, Tryz.f64), (65, Tryz.f65), (66, Tryz.f66), (67, Tryz.f67), (68, Tryz.f68), (69, Tryz.f69), (70, Tryz.f70), (71, Tryz.f71), (72, Tryz.f72), (73, Tryz.f73), (74, Tryz.f74), (75, Tryz.f75), (76, Tryz.f76), (77, Tryz.f77), (78, Tryz.f78), (79, Tryz.f79), (80, Tryz.f80), (81, Tryz.f81), (82, Tryz.f82), (83, Tryz.f83), (84, Tryz.f84), (85, Tryz.f85), (86, Tryz.f86), (87, Tryz.f87), (88, Tryz.f88), (89, Tryz.f89), (90, Tryz.f90), (91, Tryz.f91), (92, Tryz.f92), (93, Tryz.f93), (94, Tryz.f94), (95, Tryz.f95), (96, Tryz.f96), (97, Tryz.f97), (98, Tryz.f98), (99, Tryz.f99), (100, Tryz.f100), (101, Tryz.f101), (102, Tryz.f102), (103, Tryz.f103), (104, Tryz.f104), (105, Tryz.f105), (106, Tryz.f106), (107, Tryz.f107), (108, Tryz.f108), (109, Tryz.f109), (110, Tryz.f110), (111, Tryz.f111), (112, Tryz.f112), (113, Tryz.f113), (114, Tryz.f114), (115, Tryz.f115), (116, Tryz.f116), (117, Tryz.f117), (118, Tryz.f118), (119, Tryz.f119), (120, Tryz.f120), (121, Tryz.f121), (122, Tryz.f122), (123, Tryz.f123), (124, Tryz.f124), (125, Tryz.f125), (126, Tryz.f126), (127, Tryz.f127), (128, Tryz.f128), (129, Tryz.f129), (130, Tryz.f130), (131, Tryz.f131), (132, Tryz.f132), (133, Tryz.f133), (134, Tryz.f134), (135, Tryz.f135), (136, Tryz.f136), (137, Tryz.f137), (138, Tryz.f138), (139, Tryz.f139), (140, Tryz.f140), (141, Tryz.f141), (142, Tryz.f142), (143, Tryz.f143), (144, Tryz.f144), (145, Tryz.f145), (146, Tryz.f146), (147, Tryz.f147), (148, Tryz.f148), (149, Tryz.f149), (150, Tryz.f150), (151, Tryz.f151), (152, Tryz.f152), (153, Tryz.f153), (154, Tryz.f154), (155, Tryz.f155), (156, Tryz.f156), (157, Tryz.f157), (158, Tryz.f158), (159, Tryz.f159), (160, Tryz.f160), (161, Tryz.f161), (162, Tryz.f162), (182, Tryz.f182)]
theorem fl_ok : AllF Tryz.prog fl := ⟨Tryz.func2, Tryz.func3, Tryz.func4, Tryz.func5, Tryz.func6, Tryz.func7, Tryz.func8, Tryz.func9, Tryz.func10, Tryz.func11, Tryz.func12, Tryz.func13, Tryz.func14, Tryz.func15, Tryz.func16, Tryz.func17, Tryz.func18, Tryz.func19, Tryz.func20, Tryz.func21, Tryz.func22, Tryz.func23, Tryz.func24, Tryz.func25, Tryz.func26, Tryz.func27, Tryz.func28, Tryz.func29, Tryz.func30, Tryz.func31, Tryz.func32, Tryz.func33, Tryz.func34, Tryz.func35, Tryz.func36, Tryz.func37, Tryz.func38, Tryz.func39, Tryz.func40, Tryz.func41, Tryz.func42, Tryz.func43, Tryz.func44, Tryz.func45, Tryz.func46, Tryz.func47, Tryz.func48, Tryz.func49, Tryz.func50, Tryz.func51, Tryz.func52, Tryz.func53, Tryz.func54, Tryz.func55, Tryz.func56, Tryz.func57, Tryz.func58, Tryz.func59, Tryz.func60, Tryz.func61, Tryz.func62, Tryz.func63, Tryz.func64, Tryz.func65, Tryz.func66, Tryz.func67, Tryz.func68, Tryz.func69, Tryz.func70, Tryz.func71, Tryz.func72, Tryz.func73, Tryz.func74, Tryz.func75, Tryz.func76, Tryz.func77, Tryz.func78, Tryz.func79, Tryz.func80, Tryz.func81, Tryz.func82, Tryz.func83, Tryz.func84, Tryz.func85, Tryz.func86, Tryz.func87, Tryz.func88, Tryz.func89, Tryz.func90, Tryz.func91, Tryz.func92, Tryz.func93, Tryz.func94, Tryz.func95, Tryz.func96, Tryz.func97, Tryz.func98, Tryz.func99, Tryz.func100, Tryz.func101, Tryz.func102, Tryz.func103, Tryz.func104, Tryz.func105, Tryz.func106, Tryz.func107, Tryz.func108, Tryz.func109, Tryz.func110, Tryz.func111, Tryz.func112, Tryz.func113, Tryz.func114, Tryz.func115, Tryz.func116, Tryz.func117, Tryz.func118, Tryz.func119, Tryz.func120, Tryz.func121, Tryz.func122, Tryz.func123, Tryz.func124, Tryz.func125, Tryz.func126, Tryz.func127, Tryz.func128, Tryz.func129, Tryz.func130, Tryz.func131, Tryz.func132, Tryz.func133, Tryz.func134, Tryz.func135, Tryz.func136, Tryz.func137, Tryz.func138, Tryz.func139, Tryz.func140, Tryz.func141, Tryz.func142, Tryz.func143, Tryz.func144, Tryz.func145, Tryz.func146, Tryz.func147, Tryz.func148, Tryz.func149, Tryz.func150, Tryz.func151, Tryz.func152, Tryz.func153, Tryz.func154, Tryz.func155, Tryz.func156, Tryz.func157, Tryz.func158, Tryz.func159, Tryz.func160, Tryz.func161, Tryz.func162, Tryz.func182, trivial⟩
end Go.Proofs.YtkbileabkfccgaaGreatDoor

/- slices.Sorted, slices.AppendSeq and maps.Keys of texts: the library's contracts, laid in plain words. -/
namespace Go.Proofs
open Go.Shelf
open Go.RowKit
set_option maxRecDepth 100000
def Tryz.lays190I_ren : Go.Shelf.Ren := ⟨fun | 190 => 73 | 125 => 118 | 258 => 117 | 128 => 136 | 129 => 137 | 302 => 128 | 303 => 129 | 304 => 130 | 305 => 131 | 306 => 132 | 307 => 133 | 308 => 83 | 309 => 134 | 310 => 135 | 333 => 149 | 329 => 150 | 330 => 151 | 334 => 152 | 335 => 153 | 336 => 121 | 344 => 159 | n => n, fun | 31 => 41 | 9 => 9 | 3 => 3 | 46 => 130 | 0 => 0 | 51 => 171 | 53 => 95 | 4 => 4 | 183 => 165 | 182 => 164 | 131 => 79 | 5 => 5 | 218 => 178 | 222 => 182 | 228 => 187 | 229 => 188 | n => n, fun | n => n⟩
theorem Tryz.lays190I : Go.Proofs.Lays.n190 Tryz.prog Tryz.lays190I_ren := {
  mixed := by kernel_rfl
  f125 := Tryz.func118.trans (congrArg some (by kernel_rfl))
  f128 := Tryz.func136.trans (congrArg some (by kernel_rfl))
  f129 := Tryz.func137.trans (congrArg some (by kernel_rfl))
  f190 := Tryz.func73.trans (congrArg some (by kernel_rfl))
  f258 := Tryz.func117.trans (congrArg some (by kernel_rfl))
  f302 := Tryz.func128.trans (congrArg some (by kernel_rfl))
  f303 := Tryz.func129.trans (congrArg some (by kernel_rfl))
  f304 := Tryz.func130.trans (congrArg some (by kernel_rfl))
  f305 := Tryz.func131.trans (congrArg some (by kernel_rfl))
  f306 := Tryz.func132.trans (congrArg some (by kernel_rfl))
  f307 := Tryz.func133.trans (congrArg some (by kernel_rfl))
  f308 := Tryz.func83.trans (congrArg some (by kernel_rfl))
  f309 := Tryz.func134.trans (congrArg some (by kernel_rfl))
  f310 := Tryz.func135.trans (congrArg some (by kernel_rfl))
  f329 := Tryz.func150.trans (congrArg some (by kernel_rfl))
  f330 := Tryz.func151.trans (congrArg some (by kernel_rfl))
  f333 := Tryz.func149.trans (congrArg some (by kernel_rfl))
  f334 := Tryz.func152.trans (congrArg some (by kernel_rfl))
  f335 := Tryz.func153.trans (congrArg some (by kernel_rfl))
  f336 := Tryz.func121.trans (congrArg some (by kernel_rfl))
  f344 := Tryz.func159.trans (congrArg some (by kernel_rfl))
  t0 := Tryz.underlying0
  a0 := Tryz.isAgg0
  z0 := Tryz.sizeOf0
  v0 := Tryz.zeroValue0
  t3 := Tryz.underlying3
  a3 := Tryz.isAgg3
  z3 := Tryz.sizeOf3
  v3 := Tryz.zeroValue3
  t4 := Tryz.underlying4
  a4 := Tryz.isAgg4
  z4 := Tryz.sizeOf4
  v4 := Tryz.zeroValue4
  t5 := Tryz.underlying5
  a5 := Tryz.isAgg5
  z5 := Tryz.sizeOf5
  v5 := Tryz.zeroValue5
  t9 := Tryz.underlying9
  a9 := Tryz.isAgg9
  z9 := Tryz.sizeOf9
  v9 := Tryz.zeroValue9
  t31 := Tryz.underlying41
  a31 := Tryz.isAgg41
  z31 := Tryz.sizeOf41
  v31 := Tryz.zeroValue41
  t46 := Tryz.underlying130
  a46 := Tryz.isAgg130
  z46 := Tryz.sizeOf130
  v46 := Tryz.zeroValue130
  t51 := Tryz.underlying171
  a51 := Tryz.isAgg171
  z51 := Tryz.sizeOf171
  v51 := Tryz.zeroValue171
  t53 := Tryz.underlying95
  a53 := Tryz.isAgg95
  z53 := Tryz.sizeOf95
  v53 := Tryz.zeroValue95
  t131 := Tryz.underlying79
  a131 := Tryz.isAgg79
  z131 := Tryz.sizeOf79
  v131 := Tryz.zeroValue79
  t182 := Tryz.underlying164
  a182 := Tryz.isAgg164
  z182 := Tryz.sizeOf164
  v182 := Tryz.zeroValue164
  t183 := Tryz.underlying165
  a183 := Tryz.isAgg165
  z183 := Tryz.sizeOf165
  v183 := Tryz.zeroValue165
  t218 := Tryz.underlying178
  a218 := Tryz.isAgg178
  z218 := Tryz.sizeOf178
  v218 := Tryz.zeroValue178
  t222 := Tryz.underlying182
  a222 := Tryz.isAgg182
  z222 := Tryz.sizeOf182
  v222 := Tryz.zeroValue182
  t228 := Tryz.underlying187
  a228 := Tryz.isAgg187
  z228 := Tryz.sizeOf187
  v228 := Tryz.zeroValue187
  t229 := Tryz.underlying188
  a229 := Tryz.isAgg188
  z229 := Tryz.sizeOf188
  v229 := Tryz.zeroValue188 }
open Go.Sort Go.RowKit in
theorem Tryz.slices_Sort_string (blk off cap : Nat) (ss : List (List UInt8)) (w : World) (hH : Holds encStr w blk off ss.toArray) (hblk : blk < w.heap.size) (hsz : ss.length < 4611686018427387904) :
    Calls Tryz.prog 73 #[.slice (some ⟨blk, off, none⟩) ss.length cap] w fun e w' =>
      e = .returned (.tuple #[]) ∧ ∃ n os, w' = grow (putRow encStr (Sort.ahead w n) blk off (ss.mergeSort fun x y => decide (x ≤ y)).toArray) os := Any.slices_Sort_string Tryz.lays190I blk off cap ss w hH hblk hsz
open Go.RowKit Go.Sort in

theorem Tryz.slices_Sort_string_none (p : Option Addr) (cap : Nat) (w : World) :
    Calls Tryz.prog 73 #[.slice p 0 cap] w fun e w' => e = .returned (.tuple #[]) ∧ w' = w := Any.slices_Sort_string_none Tryz.lays190I p cap w
def Tryz.laysSortedI_ren : Go.Shelf.Ren := ⟨fun | 6 => 42 | 8 => 72 | 9 => 73 | 11 => 116 | 13 => 118 | 12 => 117 | 23 => 136 | 24 => 137 | 14 => 128 | 15 => 129 | 16 => 130 | 17 => 131 | 18 => 132 | 19 => 133 | 20 => 83 | 21 => 134 | 22 => 135 | 25 => 149 | 26 => 150 | 27 => 151 | 28 => 152 | 29 => 153 | 30 => 121 | 31 => 159 | n => n, fun | 26 => 9 | 28 => 70 | 24 => 41 | 0 => 0 | 3 => 3 | 37 => 130 | 48 => 171 | 50 => 95 | 4 => 4 | 40 => 165 | 39 => 164 | 45 => 79 | 5 => 5 | 9 => 9 | 51 => 178 | 55 => 182 | 57 => 187 | 58 => 188 | 33 => 121 | n => n, fun | n => n⟩
theorem Tryz.laysSortedI : Go.Proofs.SlLaysZ.n6 Tryz.prog Tryz.laysSortedI_ren := {
  mixed := by kernel_rfl
  f6 := ⟨Tryz.f42.name, by decide, Tryz.func42.trans (congrArg some (by kernel_rfl))⟩
  f8 := ⟨Tryz.f72.name, by decide, Tryz.func72.trans (congrArg some (by kernel_rfl))⟩
  f11 := ⟨Tryz.f116.name, by decide, Tryz.func116.trans (congrArg some (by kernel_rfl))⟩
  t0 := Tryz.underlying0
  a0 := Tryz.isAgg0
  z0 := Tryz.sizeOf0
  v0 := Tryz.zeroValue0
  t24 := Tryz.underlying41
  a24 := Tryz.isAgg41
  z24 := Tryz.sizeOf41
  v24 := Tryz.zeroValue41
  t26 := Tryz.underlying9
  a26 := Tryz.isAgg9
  z26 := Tryz.sizeOf9
  v26 := Tryz.zeroValue9
  t28 := Tryz.underlying70
  a28 := Tryz.isAgg70
  z28 := Tryz.sizeOf70
  v28 := Tryz.zeroValue70
  i26 := by kernel_rfl }
end Go.Proofs

/- maps.Keys of sets of match: laid in plain words. -/
namespace Go.Proofs
open Go.Shelf
open Go.RowKit
set_option maxRecDepth 100000
def Tryz.laysKeysI_ren : Go.Shelf.Ren := ⟨fun | 7 => 67 | 10 => 111 | n => n, fun | 23 => 114 | 26 => 9 | 3 => 96 | 28 => 70 | 0 => 0 | 27 => 69 | 33 => 121 | 4 => 4 | n => n, fun | n => n⟩
theorem Tryz.laysKeysI : Go.Proofs.SlLaysZ.n7 Tryz.prog Tryz.laysKeysI_ren := {
  mixed := by kernel_rfl
  f7 := ⟨Tryz.f67.name, by decide, Tryz.func67.trans (congrArg some (by kernel_rfl))⟩
  f10 := ⟨Tryz.f111.name, by decide, Tryz.func111.trans (congrArg some (by kernel_rfl))⟩
  t0 := Tryz.underlying0
  a0 := Tryz.isAgg0
  z0 := Tryz.sizeOf0
  v0 := Tryz.zeroValue0
  t4 := Tryz.underlying4
  a4 := Tryz.isAgg4
  z4 := Tryz.sizeOf4
  v4 := Tryz.zeroValue4
  t23 := Tryz.underlying114
  a23 := Tryz.isAgg114
  z23 := Tryz.sizeOf114
  v23 := Tryz.zeroValue114
  t26 := Tryz.underlying9
  a26 := Tryz.isAgg9
  z26 := Tryz.sizeOf9
  v26 := Tryz.zeroValue9
  t27 := Tryz.underlying69
  a27 := Tryz.isAgg69
  z27 := Tryz.sizeOf69
  v27 := Tryz.zeroValue69
  t28 := Tryz.underlying70
  a28 := Tryz.isAgg70
  z28 := Tryz.sizeOf70
  v28 := Tryz.zeroValue70
  t33 := Tryz.underlying121
  a33 := Tryz.isAgg121
  z33 := Tryz.sizeOf121
  v33 := Tryz.zeroValue121 }
end Go.Proofs

/- slices.Sorted of maps.Keys, as the machine has it. -/
namespace Go.Proofs.YtkbileabkfccgaaGreatDoor
open Go.RowKit Go.Shelf Go.Maps Go.Sort Go.Ev

theorem keysMatch_sorts (m : Nat) : AnyZ.SortsIn Tryz.prog Tryz.laysSortedI_ren Fence.wide m :=
  ⟨fun blk off cap ss W hH hblk hsz => callsIn_wide.2 (Tryz.slices_Sort_string blk off cap ss W hH hblk hsz),
   fun p cap W => callsIn_wide.2 (Tryz.slices_Sort_string_none p cap W)⟩
theorem keysMatch : SortKeys Tryz.prog 9 42 111 := by
  intro Bm mb n D w hB hm hown hsz
  have hseq : SeqGives Fence.wide 2 Tryz.prog 111 #[.pointer (some ⟨Bm, 0, none⟩)] encStr (fun ss => ss.Perm (strKeys D)) (Maps.size D) w :=
    AnyZ.keys_gives (ρ := Tryz.laysKeysI_ren) { Tryz.laysKeysI with } Fence.wide _ trivial rfl (by omega) Bm mb _ D _ hB hm hown
  have cS := AnyZ.sorted_in Tryz.laysSortedI Fence.wide 5 trivial trivial trivial trivial rfl (by omega) (keysMatch_sorts _) (enters_of Tryz.func73 (by kernel_rfl) rfl) 111 #[.pointer (some ⟨Bm, 0, none⟩)] trivial (enters_of Tryz.func111 (by kernel_rfl) rfl) _ _ (by unfold maxLen; omega) (by omega) _ hseq
  refine Calls.mono ((callsIn_wide (n := 5)).1 cS) ?_
  rintro e w' ⟨v, ss, rfl, hp, ho, hn, hb⟩
  exact ⟨v, ss, rfl, hp, ho, hn, hb⟩
end Go.Proofs.YtkbileabkfccgaaGreatDoor

/- slices.AppendSeq(nil, slices.Values(s)), s of texts. -/
namespace Go.Proofs.YtkbileabkfccgaaGreatDoor
open Go.RowKit Go.Shelf Go.Maps Go.Sort

/-- an int -/
def iOf : Value → Nat
  | .int _ n => n.toNat
  | _ => 0
/-- a slice of texts that is read -/
def TxAt (w : World) (b off : Nat) (xs : List (List UInt8)) : Prop := ∀ (i : Nat) (h : i < xs.length), w.cell? ⟨b, off + i, none⟩ = some (encStr xs[i])

set_option maxRecDepth 100000 in
set_option maxHeartbeats 2000000 in
/-- slices.Values: each element comes, in its order, where what the caller keeps tells that nothing older has turned -/
theorem values_in (n : Nat) (hn : 1 ≤ n) (l Bm b off cap : Nat) (xs : List (List UInt8)) (hxs : xs.length ≤ 4611686018427387904) (w : World) (J : List (List UInt8) → World → Prop)
    (hJB : ∀ s W, J s W → Below w.heap.size w W)
    (hY : ∀ pre x W, J pre W → pre.length < xs.length → YieldAt Fence.wide (n - 1) Tryz.prog l #[encStr x] W fun e W' => e = .returned (.bool true) ∧ J (pre ++ [x]) W')
    (hBm : Bm < w.heap.size) (hb : b < w.heap.size) (hm : w.cell? ⟨Bm, 0, none⟩ = some (.slice (some ⟨b, off, none⟩) xs.length cap)) (hx : TxAt w b off xs)
    (W : World) (h0 : J [] W) :
    CallsIn Fence.wide n Tryz.prog 74 #[.func (.yield l) #[] #[], .pointer (some ⟨Bm, 0, none⟩)] W fun e W' => (∃ v, e = .returned v) ∧ J xs W' := by
  have hm0 := (hJB _ _ h0).cell (p := ⟨Bm, 0, none⟩) hBm |>.trans hm
  refine callsIn_of_wp Tryz.func74 rfl trivial ?_
  simp only [Tryz.ntmps74, List.size_toArray, List.length_cons, List.length_nil, Nat.reduceAdd, Nat.reduceSub, Array.replicate_succ, Array.replicate_zero, List.push_toArray, List.append_toArray, List.nil_append, List.cons_append]
  gi_wp2
  gi_loopw [7] (fun v wr => ∃ i : Nat, v = .int .i64 i ∧ i ≤ xs.length ∧ J (xs.take i) wr) (fun v _ => xs.length - iOf v)
  case atStart => exact ⟨0, rfl, Nat.zero_le _, by simpa using h0⟩
  case round =>
    obtain ⟨i, rfl, hi, hJ⟩ := hrel
    by_cases hlt : i < xs.length
    · have hc1 : decide ((i : Int) < (xs.length : Int)) = true := by simpa using hlt
      have hd := (hJB _ _ hJ)
      have hel := (hd.cell (p := ⟨b, off + i, none⟩) hb).trans (hx i hlt)
      obtain ⟨fn, tmps, assign, body, hy, hR⟩ := hY (xs.take i) xs[i] wr hJ (by rw [List.length_take]; omega)
      have hw : IntKind.i64.wrap ((i : Int) + 1) = ((i + 1 : Nat) : Int) := by rw [IntKind.wrap_i64]; omega
      gi_wp2
      refine hR.mono ?_
      rintro e W3 ⟨rfl, hJ3⟩
      gi_wp2
      go_roundw
      case rel => exact ⟨i + 1, rfl, by omega, by rw [List.take_succ_eq_append_getElem hlt]; exact hJ3⟩
      case measure => simp only [iOf]; omega
    · have hc1 : decide ((i : Int) < (xs.length : Int)) = false := by simpa using hlt
      gi_wp2
      go_end0
      obtain rfl : i = xs.length := by omega
      exact ⟨⟨_, rfl⟩, by simpa using hJ⟩

set_option maxRecDepth 100000 in
set_option maxHeartbeats 2000000 in
/-- slices.AppendSeq(nil, slices.Values(s)): a row of the call's own with the texts of s -/
theorem appendValues_any (Bm b off cap : Nat) (xs : List (List UInt8)) (hxs : xs.length ≤ 8000000000000) (w : World)
    (hBm : Bm < w.heap.size) (hb : b < w.heap.size) (hm : w.cell? ⟨Bm, 0, none⟩ = some (.slice (some ⟨b, off, none⟩) xs.length cap)) (hx : TxAt w b off xs) :
    Calls Tryz.prog 116 #[.slice none 0 0, .func (.func 74) #[] #[.pointer (some ⟨Bm, 0, none⟩)]] w fun e w' =>
      ∃ v, e = .returned v ∧ w'.ownsRow w.heap.size 9 1 v xs.length (xs.map encStr) ∧ (v = .slice none 0 0 ↔ xs = []) ∧ Below w.heap.size w w' := by
  refine (callsIn_wide (n := 5)).1 ?_
  refine callsIn_of_wp_marks Tryz.func116 rfl trivial ?_ rfl
  simp only [Tryz.ntmps116, List.size_toArray, List.length_cons, List.length_nil, Nat.reduceAdd, Nat.reduceSub, Array.replicate_succ, Array.replicate_zero, List.push_toArray, List.append_toArray, List.nil_append, List.cons_append]
  gi_wp2
  refine wpIn_rangeFunc fun fn _ => ?_
  -- the box of the row, the deferred list, the record
  generalize hW0 : w.alloc (.cells #[.slice none 0 0] 41) = W0
  have s0 : W0.heap.size = w.heap.size + 1 := by rw [← hW0]; simp
  have box0 : W0.heap[w.heap.size]? = some (.cells #[.slice none 0 0] 41 (0, 0)) := by rw [← hW0]; exact World.alloc_heap_new w _
  have b0 : Below w.heap.size w W0 := by rw [← hW0]; exact (Below.refl _ w).alloc (Nat.le_refl _) _
  clear hW0
  generalize hsv : Value.func (.func 74) #[] #[.pointer (some ⟨Bm, 0, none⟩)] = sv
  generalize hW1 : (W0.alloc (.deferred (some []))).alloc (.loop (AnyZ.apRec Tryz.laysSortedI_ren fn sv w.heap.size W0.heap.size .ready none)) = W1
  have s1 : W1.heap.size = W0.heap.size + 2 := by rw [← hW1]; simp
  have b1 : Below w.heap.size w W1 := by
    rw [← hW1]
    exact (b0.alloc (by omega) _).alloc (by simp; omega) _
  have old1 : ∀ k, k < W0.heap.size → W1.heap[k]? = W0.heap[k]? := by
    intro k hk
    rw [← hW1, Below.heap_alloc _ _ k (by simp; omega), Below.heap_alloc _ _ k hk]
  have at1 : AnyZ.ApAt Tryz.laysSortedI_ren w fn sv w.heap.size (W0.heap.size + 1) W0.heap.size [] W1 := by
    refine ⟨⟨_, (old1 _ (by omega)).trans box0, ⟨rfl, .inl ⟨rfl, rfl⟩⟩, by simp⟩, ?_, ?_, b1⟩
    · rw [← hW1]
      have := World.alloc_heap_new (W0.alloc (.deferred (some []))) (.loop (AnyZ.apRec Tryz.laysSortedI_ren fn sv w.heap.size W0.heap.size .ready none))
      rwa [World.size_alloc] at this
    · rw [← hW1, Below.heap_alloc _ _ _ (by simp)]
      exact World.alloc_heap_new W0 _
  have v1 := values_in 4 (by omega) (W0.heap.size + 1) Bm b off cap xs (by omega) w (AnyZ.ApAt Tryz.laysSortedI_ren w fn sv w.heap.size (W0.heap.size + 1) W0.heap.size) (fun _ _ h => h.below)
    (fun pre x W h hl => by
      obtain ⟨g, tm, asg, bd, e1, e2⟩ := AnyZ.apYield (ρ := Tryz.laysSortedI_ren) { Tryz.laysSortedI with } Fence.wide (4 - 1) w fn trivial sv w.heap.size (W0.heap.size + 1) W0.heap.size (by omega) (by omega) (by omega) (Nat.le_refl _) (by omega) xs.length (by unfold maxLen; omega) (by omega) pre x W h hl
      exact ⟨g, tm, asg, bd, e1, e2.mono fun e W' q => ⟨q.1, q.2.1⟩⟩) hBm hb hm hx W1 at1
  refine ⟨W0.heap.size + 1, [{ target := .collected W0.heap.size, args := #[] }], W1, { target := .fn (.func 74) #[.pointer (some ⟨Bm, 0, none⟩)], args := #[.func (.yield (W0.heap.size + 1)) #[] #[]] }, W1, 74,
    #[.func (.yield (W0.heap.size + 1)) #[] #[], .pointer (some ⟨Bm, 0, none⟩)], W1, ?_, ?_, fun _ _ => trivial, ?_, fun _ => by omega, ?_⟩
  · rw [← hW1]; exact run_enterLoop_outer _ _ _ _ _
  · subst hsv; simp [resolve, go_sem]
  · simp [invoke, go_sem]
  · refine v1.mono ?_
    rintro e W2 ⟨⟨v0, rfl⟩, h2⟩
    obtain ⟨v, hv, hrow, hnil⟩ := h2.box
    have hend := run_endLoop (P := Tryz.prog) h2.L (by simp [AnyZ.apRec])
    generalize hW3 : W2.putObj (W0.heap.size + 1) (.loop { AnyZ.apRec Tryz.laysSortedI_ren fn sv w.heap.size W0.heap.size .ready none with state := .exhausted }) = W3 at hend
    have g3 : W2.grownBy W3 (some (W0.heap.size + 1)) := by rw [← hW3]; exact grownBy_putObj_a _ _ _
    have box3 : W3.heap[w.heap.size]? = some (.cells #[v] 41 (0, 0)) := by rw [← hW3, World.putObj_heap_other (by omega)]; exact hv
    have list3 : W3.heap[W0.heap.size]? = some (.deferred (some [])) := by rw [← hW3, World.putObj_heap_other (by omega)]; exact h2.K
    have row3 := hrow.kept g3 (ownsRow_ne_a hrow h2.L (fun cur e => by cases e))
    have b3 : Below w.heap.size w W3 := h2.below.grown g3 h2.below.size (fun k e => by cases e; omega)
    clear hW3
    obtain ⟨cell3, free3⟩ := cell_of_box_a box3
    refine ⟨none, W3, hend, ?_⟩
    gi_wp2
    rw [s0] at list3
    refine ⟨by simp, .inl ⟨_, _, rfl, run_takeDeferred list3, ?_⟩⟩
    have g4 : W3.grownBy (W3.putObj (w.heap.size + 1) (.deferred none)) (some (w.heap.size + 1)) := grownBy_putObj_a _ _ _
    have row4 := row3.kept g4 (ownsRow_ne_a row3 list3 (fun cur e => by cases e))
    exact ⟨_, results_tmp rfl _ _ _, v, rfl, row4, hnil, b3.grown g4 b3.size (fun k e => by cases e; omega)⟩
end Go.Proofs.YtkbileabkfccgaaGreatDoor

/- slices.AppendSeq of slices.Values, as the machine has it. -/
namespace Go.Proofs.YtkbileabkfccgaaGreatDoor
open Go.RowKit Go.Ev
theorem appVals : AppVals Tryz.prog 9 116 74 :=
  fun Bm b off cap xs w h1 h2 h3 h4 h5 => appendValues_any Bm b off cap xs h1 w h2 h3 h4 h5
end Go.Proofs.YtkbileabkfccgaaGreatDoor

/- The examples of the law on matching, run by the machine. -/
namespace Go.Proofs.YtkbileabkfccgaaGreatDoor
open Go.RowKit Go.Ev
noncomputable def tab64 : PT (List AV) := PT.lf.set (some (tabA .u8 Lib.deBruijn64tab)) (psOf 0)
noncomputable def toldM : PT Intr := (PT.lf.set (some (sortedI 9 111)) (psOf 42)).set (some (appSeqI 9 74)) (psOf 116)
theorem toldM_ok {B : Nat → Prop} {W : World} : ∀ g f, toldM.get (psOf g) = some f → IntrOk Tryz.prog B W g f :=
  tabI_ok (tabI_ok tabI_lf (sorted_ok (by kernel_rfl) Tryz.underlying9 (enters_of Tryz.func42 (by kernel_rfl) rfl) keysMatch))
    (appSeq_ok (by kernel_rfl) (enters_of Tryz.func116 (by kernel_rfl) rfl) appVals)
set_option maxRecDepth 10000000 in
theorem matchLives_run : goF (tabC Tryz.prog tab64 100000 fl) toldM 60 5 [] ⟨.lf, .h⟩ (fun v _ => isT v) = true := by kernel_rfl
theorem matchLives_walk (w : World) {e : TypeId} {fz : Nat × Nat} (hT : w.heap[0]? = some (.cells (Lib.deBruijn64tab.map fun (n : Nat) => Value.int .u8 n).toArray e fz)) :
    Calls Tryz.prog 5 #[] w fun e w' => e = .returned (.bool true) ∧ Below w.heap.size w w' :=
  comes_true (GOk.lf.put (tabA_conc _ _) hT (fun _ h => h)) (by kernel_rfl) fl_ok (fun _ _ _ => toldM_ok) 100000 60 matchLives_run
end Go.Proofs.YtkbileabkfccgaaGreatDoor
