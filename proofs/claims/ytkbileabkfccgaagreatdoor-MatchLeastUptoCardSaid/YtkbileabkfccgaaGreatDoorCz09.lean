/- ShB, MaG, MaH, merged. -/
import Derived.Shelf.Spec.TrailingZeros
import Derived.Shelf.SlSortCmp.WholeK
import Derived.Shelf.SlSortCmp.InsertionK
import Derived.Shelf.SlSortCmp.NoneTotal
import Derived.Shelf.SlIter.Nil
import Derived.Test.YtkbileabkfccgaaGreatDoorProg
import Derived.Test.YtkbileabkfccgaaGreatDoorCz08
import Derived.Laws.Bits64b

/- TrailingZeros64, SortFunc and insertion sort of edges, Sorted, maps.Keys: the library's contracts, laid in plain words. -/
namespace Go.Proofs
open Go.Shelf
open Go.RowKit
open Go.Shelf
def Tryz.laysTz_ren : Go.Shelf.Ren := ⟨fun | 29 => 109 | n => n, fun | 22 => 95 | 3 => 3 | 4 => 4 | 25 => 130 | 54 => 160 | 0 => 0 | 5 => 5 | n => n, fun | 1 => 0 | n => n⟩
theorem Tryz.laysTz : Go.Proofs.Lays7.n29 Tryz.prog Tryz.laysTz_ren := {
  mixed := by kernel_rfl
  f29 := Tryz.func109.trans (congrArg some (by kernel_rfl))
  t0 := Tryz.underlying0
  a0 := Tryz.isAgg0
  z0 := Tryz.sizeOf0
  v0 := Tryz.zeroValue0
  i0 := by kernel_rfl
  t3 := Tryz.underlying3
  a3 := Tryz.isAgg3
  z3 := Tryz.sizeOf3
  v3 := Tryz.zeroValue3
  i3 := by kernel_rfl
  t4 := Tryz.underlying4
  a4 := Tryz.isAgg4
  z4 := Tryz.sizeOf4
  v4 := Tryz.zeroValue4
  i4 := by kernel_rfl
  t5 := Tryz.underlying5
  a5 := Tryz.isAgg5
  z5 := Tryz.sizeOf5
  v5 := Tryz.zeroValue5
  i5 := by kernel_rfl
  t22 := Tryz.underlying95
  a22 := Tryz.isAgg95
  z22 := Tryz.sizeOf95
  v22 := Tryz.zeroValue95
  i22 := by kernel_rfl
  t25 := Tryz.underlying130
  a25 := Tryz.isAgg130
  z25 := Tryz.sizeOf130
  v25 := Tryz.zeroValue130
  i25 := by kernel_rfl
  t54 := Tryz.underlying160
  a54 := Tryz.isAgg160
  z54 := Tryz.sizeOf160
  g1 := by kernel_rfl }
def Tryz.laysSf_ren : Go.Shelf.Ren := ⟨fun | 6 => 115 | 15 => 118 | 14 => 127 | 28 => 136 | 29 => 137 | 20 => 138 | 21 => 142 | 22 => 143 | 23 => 144 | 24 => 145 | 25 => 146 | 26 => 147 | 27 => 148 | 46 => 156 | 47 => 150 | 48 => 151 | 49 => 157 | 50 => 158 | 57 => 162 | n => n, fun | 22 => 36 | 24 => 53 | 25 => 125 | 3 => 3 | 39 => 130 | 0 => 0 | 53 => 171 | 55 => 95 | 4 => 4 | 46 => 165 | 45 => 164 | 50 => 79 | 5 => 5 | 9 => 9 | 66 => 178 | 70 => 182 | 76 => 187 | 77 => 188 | n => n, fun | n => n⟩
theorem Tryz.laysSf : Go.Proofs.SlLaysF0.n6 Tryz.prog Tryz.laysSf_ren := {
  mixed := by kernel_rfl
  f6 := ⟨Tryz.f115.name, by decide, Tryz.func115.trans (congrArg some (by kernel_rfl))⟩
  f14 := ⟨Tryz.f127.name, by decide, Tryz.func127.trans (congrArg some (by kernel_rfl))⟩
  f15 := Tryz.func118.trans (congrArg some (by kernel_rfl))
  f20 := ⟨Tryz.f138.name, by decide, Tryz.func138.trans (congrArg some (by kernel_rfl))⟩
  f21 := ⟨Tryz.f142.name, by decide, Tryz.func142.trans (congrArg some (by kernel_rfl))⟩
  f22 := ⟨Tryz.f143.name, by decide, Tryz.func143.trans (congrArg some (by kernel_rfl))⟩
  f23 := ⟨Tryz.f144.name, by decide, Tryz.func144.trans (congrArg some (by kernel_rfl))⟩
  f24 := ⟨Tryz.f145.name, by decide, Tryz.func145.trans (congrArg some (by kernel_rfl))⟩
  f25 := ⟨Tryz.f146.name, by decide, Tryz.func146.trans (congrArg some (by kernel_rfl))⟩
  f26 := ⟨Tryz.f147.name, by decide, Tryz.func147.trans (congrArg some (by kernel_rfl))⟩
  f27 := ⟨Tryz.f148.name, by decide, Tryz.func148.trans (congrArg some (by kernel_rfl))⟩
  f28 := Tryz.func136.trans (congrArg some (by kernel_rfl))
  f29 := Tryz.func137.trans (congrArg some (by kernel_rfl))
  f46 := ⟨Tryz.f156.name, by decide, Tryz.func156.trans (congrArg some (by kernel_rfl))⟩
  f47 := Tryz.func150.trans (congrArg some (by kernel_rfl))
  f48 := Tryz.func151.trans (congrArg some (by kernel_rfl))
  f49 := ⟨Tryz.f157.name, by decide, Tryz.func157.trans (congrArg some (by kernel_rfl))⟩
  f50 := ⟨Tryz.f158.name, by decide, Tryz.func158.trans (congrArg some (by kernel_rfl))⟩
  f57 := ⟨Tryz.f162.name, by decide, Tryz.func162.trans (congrArg some (by kernel_rfl))⟩
  t0 := Tryz.underlying0
  a0 := Tryz.isAgg0
  z0 := Tryz.sizeOf0
  v0 := Tryz.zeroValue0
  t3 := Tryz.underlying3
  a3 := Tryz.isAgg3
  z3 := Tryz.sizeOf3
  v3 := Tryz.zeroValue3
  t4 := Tryz.underlying4
  a4 := Tryz.isAgg4
  z4 := Tryz.sizeOf4
  v4 := Tryz.zeroValue4
  t5 := Tryz.underlying5
  a5 := Tryz.isAgg5
  z5 := Tryz.sizeOf5
  v5 := Tryz.zeroValue5
  t9 := Tryz.underlying9
  a9 := Tryz.isAgg9
  z9 := Tryz.sizeOf9
  v9 := Tryz.zeroValue9
  t22 := Tryz.underlying36
  a22 := Tryz.isAgg36
  z22 := Tryz.sizeOf36
  v22 := Tryz.zeroValue36
  t25 := Tryz.underlying125
  a25 := Tryz.isAgg125
  z25 := Tryz.sizeOf125
  v25 := Tryz.zeroValue125
  t39 := Tryz.underlying130
  a39 := Tryz.isAgg130
  z39 := Tryz.sizeOf130
  v39 := Tryz.zeroValue130
  t45 := Tryz.underlying164
  a45 := Tryz.isAgg164
  z45 := Tryz.sizeOf164
  v45 := Tryz.zeroValue164
  t46 := Tryz.underlying165
  a46 := Tryz.isAgg165
  z46 := Tryz.sizeOf165
  v46 := Tryz.zeroValue165
  t50 := Tryz.underlying79
  a50 := Tryz.isAgg79
  z50 := Tryz.sizeOf79
  v50 := Tryz.zeroValue79
  t53 := Tryz.underlying171
  a53 := Tryz.isAgg171
  z53 := Tryz.sizeOf171
  v53 := Tryz.zeroValue171
  t55 := Tryz.underlying95
  a55 := Tryz.isAgg95
  z55 := Tryz.sizeOf95
  v55 := Tryz.zeroValue95
  t66 := Tryz.underlying178
  a66 := Tryz.isAgg178
  z66 := Tryz.sizeOf178
  v66 := Tryz.zeroValue178
  t70 := Tryz.underlying182
  a70 := Tryz.isAgg182
  z70 := Tryz.sizeOf182
  v70 := Tryz.zeroValue182
  t76 := Tryz.underlying187
  a76 := Tryz.isAgg187
  z76 := Tryz.sizeOf187
  v76 := Tryz.zeroValue187
  t77 := Tryz.underlying188
  a77 := Tryz.isAgg188
  z77 := Tryz.sizeOf188
  v77 := Tryz.zeroValue188 }
def Tryz.laysIns_ren : Go.Shelf.Ren := ⟨fun | 20 => 138 | n => n, fun | 24 => 53 | 22 => 36 | 3 => 3 | 25 => 125 | 4 => 4 | 0 => 0 | n => n, fun | n => n⟩
theorem Tryz.laysIns : Go.Proofs.SlLaysF0.n20 Tryz.prog Tryz.laysIns_ren := {
  mixed := by kernel_rfl
  f20 := ⟨Tryz.f138.name, by decide, Tryz.func138.trans (congrArg some (by kernel_rfl))⟩
  t0 := Tryz.underlying0
  a0 := Tryz.isAgg0
  z0 := Tryz.sizeOf0
  v0 := Tryz.zeroValue0
  t3 := Tryz.underlying3
  a3 := Tryz.isAgg3
  z3 := Tryz.sizeOf3
  v3 := Tryz.zeroValue3
  t4 := Tryz.underlying4
  a4 := Tryz.isAgg4
  z4 := Tryz.sizeOf4
  v4 := Tryz.zeroValue4
  t22 := Tryz.underlying36
  a22 := Tryz.isAgg36
  z22 := Tryz.sizeOf36
  v22 := Tryz.zeroValue36
  t25 := Tryz.underlying125
  a25 := Tryz.isAgg125
  z25 := Tryz.sizeOf125
  v25 := Tryz.zeroValue125 }
def Tryz.laysKeys_ren : Go.Shelf.Ren := ⟨fun | 7 => 67 | 10 => 111 | n => n, fun | 23 => 114 | 26 => 9 | 3 => 96 | 28 => 70 | 0 => 0 | 27 => 69 | 33 => 121 | 4 => 4 | n => n, fun | n => n⟩
theorem Tryz.laysKeys : Go.Proofs.SlLaysZ.n7 Tryz.prog Tryz.laysKeys_ren := {
  mixed := by kernel_rfl
  f7 := ⟨Tryz.f67.name, by decide, Tryz.func67.trans (congrArg some (by kernel_rfl))⟩
  f10 := ⟨Tryz.f111.name, by decide, Tryz.func111.trans (congrArg some (by kernel_rfl))⟩
  t0 := Tryz.underlying0
  a0 := Tryz.isAgg0
  z0 := Tryz.sizeOf0
  v0 := Tryz.zeroValue0
  t4 := Tryz.underlying4
  a4 := Tryz.isAgg4
  z4 := Tryz.sizeOf4
  v4 := Tryz.zeroValue4
  t23 := Tryz.underlying114
  a23 := Tryz.isAgg114
  z23 := Tryz.sizeOf114
  v23 := Tryz.zeroValue114
  t26 := Tryz.underlying9
  a26 := Tryz.isAgg9
  z26 := Tryz.sizeOf9
  v26 := Tryz.zeroValue9
  t27 := Tryz.underlying69
  a27 := Tryz.isAgg69
  z27 := Tryz.sizeOf69
  v27 := Tryz.zeroValue69
  t28 := Tryz.underlying70
  a28 := Tryz.isAgg70
  z28 := Tryz.sizeOf70
  v28 := Tryz.zeroValue70
  t33 := Tryz.underlying121
  a33 := Tryz.isAgg121
  z33 := Tryz.sizeOf121
  v33 := Tryz.zeroValue121 }
def Tryz.laysSorted_ren : Go.Shelf.Ren := ⟨fun | 6 => 42 | 8 => 72 | 9 => 73 | 11 => 116 | 13 => 118 | 12 => 117 | 23 => 136 | 24 => 137 | 14 => 128 | 15 => 129 | 16 => 130 | 17 => 131 | 18 => 132 | 19 => 133 | 20 => 83 | 21 => 134 | 22 => 135 | 25 => 149 | 26 => 150 | 27 => 151 | 28 => 152 | 29 => 153 | 30 => 121 | 31 => 159 | n => n, fun | 26 => 9 | 28 => 70 | 24 => 41 | 0 => 0 | 3 => 3 | 37 => 130 | 48 => 171 | 50 => 95 | 4 => 4 | 40 => 165 | 39 => 164 | 45 => 79 | 5 => 5 | 9 => 9 | 51 => 178 | 55 => 182 | 57 => 187 | 58 => 188 | 33 => 121 | n => n, fun | n => n⟩
theorem Tryz.laysSorted : Go.Proofs.SlLaysZ.n6 Tryz.prog Tryz.laysSorted_ren := {
  mixed := by kernel_rfl
  f6 := ⟨Tryz.f42.name, by decide, Tryz.func42.trans (congrArg some (by kernel_rfl))⟩
  f8 := ⟨Tryz.f72.name, by decide, Tryz.func72.trans (congrArg some (by kernel_rfl))⟩
  f11 := ⟨Tryz.f116.name, by decide, Tryz.func116.trans (congrArg some (by kernel_rfl))⟩
  t0 := Tryz.underlying0
  a0 := Tryz.isAgg0
  z0 := Tryz.sizeOf0
  v0 := Tryz.zeroValue0
  t24 := Tryz.underlying41
  a24 := Tryz.isAgg41
  z24 := Tryz.sizeOf41
  v24 := Tryz.zeroValue41
  t26 := Tryz.underlying9
  a26 := Tryz.isAgg9
  z26 := Tryz.sizeOf9
  v26 := Tryz.zeroValue9
  t28 := Tryz.underlying70
  a28 := Tryz.isAgg70
  z28 := Tryz.sizeOf70
  v28 := Tryz.zeroValue70
  i26 := by kernel_rfl }
end Go.Proofs

/- match: sets of spots, as numbers; their spots. -/
namespace Go.Proofs.YtkbileabkfccgaaGreatDoor
open Go.RowKit

/-- the spots of a set, rising -/
def bitsN (s : Nat) : List Nat := (List.range 25).filter fun i => s.testBit i

theorem and_pred (k m : Nat) : (2 ^ k * (2 * m + 1)) &&& (2 ^ k * (2 * m + 1) - 1) = 2 ^ k * (2 * m) := by
  have hp : 0 < 2 ^ k := Nat.pow_pos (by omega)
  have e : 2 ^ k * (2 * m + 1) - 1 = 2 ^ k * (2 * m) + (2 ^ k - 1) := by
    have : 2 ^ k * (2 * m + 1) = 2 ^ k * (2 * m) + 2 ^ k := by rw [Nat.mul_add, Nat.mul_one]
    omega
  rw [e]
  apply Nat.eq_of_testBit_eq
  intro i
  rw [Nat.testBit_and]
  by_cases hik : i < k
  · have h1 : (2 ^ k * (2 * m + 1)).testBit i = false := by rw [Nat.mul_comm, Nat.testBit_mul_two_pow]; simp; omega
    have h2 : (2 ^ k * (2 * m)).testBit i = false := by rw [Nat.mul_comm, Nat.testBit_mul_two_pow]; simp; omega
    rw [h1, h2]; rfl
  · obtain ⟨j, rfl⟩ : ∃ j, i = k + j := ⟨i - k, by omega⟩
    have h2 : (2 ^ k * (2 * m) + (2 ^ k - 1)).testBit (k + j) = (2 * m).testBit j := by
      rw [Nat.testBit_eq_decide_div_mod_eq, Nat.testBit_eq_decide_div_mod_eq, Nat.pow_add, ← Nat.div_div_eq_div_mul]
      rw [Nat.mul_add_div hp, Nat.div_eq_of_lt (a := 2 ^ k - 1) (by omega), Nat.add_zero]
    have h1 : (2 ^ k * (2 * m + 1)).testBit (k + j) = (2 * m + 1).testBit j := by rw [Nat.mul_comm, Nat.testBit_mul_two_pow]; simp
    have h3 : (2 ^ k * (2 * m)).testBit (k + j) = (2 * m).testBit j := by rw [Nat.mul_comm, Nat.testBit_mul_two_pow]; simp
    rw [h1, h2, h3]
    cases j with
    | zero => simp [Nat.testBit_zero]
    | succ j =>
      rw [Nat.testBit_succ, Nat.testBit_succ]
      have e1 : (2 * m + 1) / 2 = m := by omega
      have e2 : (2 * m) / 2 = m := by omega
      rw [e1, e2, Bool.and_self]
theorem range_split (k n : Nat) (h : k < n) : List.range n = List.range k ++ k :: (List.range (n - k - 1)).map (k + 1 + ·) := by
  have e : n = k + (1 + (n - k - 1)) := by omega
  conv => lhs; rw [e]
  rw [List.range_add, List.range_add, List.map_append, List.map_map]
  have h1 : List.map (fun x => k + x) (List.range 1) = [k] := by simp [List.range_succ]
  rw [h1]
  have : ((fun x => k + x) ∘ fun x => 1 + x) = fun x => k + 1 + x := by funext x; simp; omega
  rw [this]; rfl
/-- the least spot, and what is left without it -/
theorem bits_step (x : Nat) (h0 : x ≠ 0) (hx : x < 33554432) : Lib.ctz 64 x < 25 ∧ x &&& (x - 1) < x ∧ bitsN x = Lib.ctz 64 x :: bitsN (x &&& (x - 1)) := by
  obtain ⟨m, hm, _⟩ := Lib.ctzFrom_spec 64 x (by omega) (by omega)
  have hc : Lib.ctz 64 x = Lib.ctzFrom 64 x := by unfold Lib.ctz; rw [if_neg h0]
  rw [hc]
  generalize Lib.ctzFrom 64 x = k at hm ⊢
  have hp : 0 < 2 ^ k := Nat.pow_pos (by omega)
  have hk : k < 25 := by
    apply Nat.lt_of_not_le
    intro hle
    have h1 : 2 ^ 25 ≤ 2 ^ k := Nat.pow_le_pow_right (by decide) hle
    have h2 : 2 ^ k ≤ 2 ^ k * (2 * m + 1) := Nat.le_mul_of_pos_right _ (by omega)
    omega
  have ha := and_pred k m
  rw [← hm] at ha
  have hlt : x &&& (x - 1) < x := by
    rw [ha]
    have : 2 ^ k * (2 * m + 1) = 2 ^ k * (2 * m) + 2 ^ k := by rw [Nat.mul_add, Nat.mul_one]
    omega
  refine ⟨hk, hlt, ?_⟩
  unfold bitsN
  rw [range_split k 25 hk, List.filter_append, List.filter_append, List.filter_cons, List.filter_cons]
  have l1 : ∀ (y : Nat) (i : Nat), i < k → (2 ^ k * y).testBit i = false := fun y i hi => by rw [Nat.mul_comm, Nat.testBit_mul_two_pow]; simp; omega
  have e1 : (List.range k).filter (fun i => x.testBit i) = [] := by
    rw [List.filter_eq_nil_iff]; intro i hi; rw [hm, l1 _ i (List.mem_range.1 hi)]; simp
  have e2 : (List.range k).filter (fun i => (x &&& (x - 1)).testBit i) = [] := by
    rw [List.filter_eq_nil_iff]; intro i hi; rw [ha, l1 _ i (List.mem_range.1 hi)]; simp
  have b1 : x.testBit k = true := by rw [hm, Nat.mul_comm, Nat.testBit_mul_two_pow]; simp [Nat.testBit_zero]
  have b2 : (x &&& (x - 1)).testBit k = false := by rw [ha, Nat.mul_comm, Nat.testBit_mul_two_pow]; simp [Nat.testBit_zero]
  rw [e1, e2, b1, b2, if_pos rfl, if_neg (by simp), List.nil_append, List.nil_append]
  congr 1
  apply List.filter_congr
  intro i hi
  obtain ⟨j, _, rfl⟩ := List.mem_map.1 hi
  have l2 : ∀ y : Nat, (2 ^ k * y).testBit (k + 1 + j) = y.testBit (j + 1) := fun y => by
    rw [Nat.mul_comm, Nat.testBit_mul_two_pow]
    have h1 : k + 1 + j - k = j + 1 := by omega
    rw [h1]; simp; omega
  rw [ha, hm, l2, l2, Nat.testBit_succ, Nat.testBit_succ]
  have e3 : (2 * m + 1) / 2 = m := by omega
  have e4 : (2 * m) / 2 = m := by omega
  rw [e3, e4]
theorem bits_zero : bitsN 0 = [] := by unfold bitsN; rw [List.filter_eq_nil_iff]; intro i _; simp
theorem bits_lt {s i : Nat} (h : i ∈ bitsN s) : i < 25 := by unfold bitsN at h; exact List.mem_range.1 (List.mem_filter.1 h).1
theorem bits_mem {s i : Nat} : i ∈ bitsN s ↔ i < 25 ∧ s.testBit i = true := by unfold bitsN; rw [List.mem_filter, List.mem_range]
theorem bits_len (s : Nat) : (bitsN s).length ≤ 25 := by unfold bitsN; exact Nat.le_trans (List.length_filter_le _ _) (by simp)

/-- spots, as bytes -/
def byC (l : List Nat) : List Value := l.map fun i : Nat => Value.int .u8 (i : Int)
theorem byC_app (l m : List Nat) : byC (l ++ m) = byC l ++ byC m := by simp [byC]
theorem byC_get (l : List Nat) (k : Nat) (hk : k < l.length) : (byC l)[k]? = some (.int .u8 (l[k] : Int)) := by simp [byC, hk]
/-- the table of the library, in its variable -/
def Tab (w : World) : Prop := TabAt 0 Lib.deBruijn64tab w ∧ 0 < w.heap.size
theorem Tab.below {w w' : World} {B : Nat} (h : Tab w) (hb : Below B w w') (h0 : 0 < B) : Tab w' :=
  ⟨fun j hj => (hb.cell (p := ⟨0, j, none⟩) h0).trans (h.1 j hj), Nat.lt_of_lt_of_le h.2 hb.size⟩
theorem Tab.all {w w' : World} (h : Tab w) (hb : Below w.heap.size w w') : Tab w' := h.below hb h.2

theorem tz_any (x : Nat) (w : World) (hx : x < 33554432) (hT : Tab w) : Calls Tryz.prog 109 #[.int .u64 x] w fun e w' => e = .returned (.int .i64 (Lib.ctz 64 x)) ∧ w = w' :=
  (Any7.bits_TrailingZeros64 Tryz.laysTz x (by omega) w fun _ => hT.1).mono fun _ _ ⟨h1, h2⟩ => ⟨h1, h2.symm⟩

theorem infoBy : (Tryz.prog.info? 5).map (fun i => (i.zero, i.size, i.bytes)) = some (some (.int .u8 0), 1, 1) := by kernel_rfl
/-- what is handed back is new, and holds the spots l; what was there is as it was -/
def MakesBy (w : World) (l : List Nat) (x : Ending) (w' : World) : Prop := ∃ v, x = .returned v ∧ w'.ownsRow w.heap.size 5 1 v l.length (byC l) ∧ Below w.heap.size w w'
theorem u8_small (k : Nat) (h : k < 25) : IntKind.u8.wrap (k : Int) = k := by simp [IntKind.wrap, IntKind.signed, IntKind.bits]; omega

set_option maxRecDepth 100000 in
set_option maxHeartbeats 800000 in
theorem spots_any (s : Nat) (w : World) (hs : s < 33554432) (hT : Tab w) : Calls Tryz.prog 63 #[.int .u64 s] w (MakesBy w (bitsN s)) := by
  obtain ⟨i0, hi, hz0, hz1, hz2⟩ := info_parts infoBy
  obtain ⟨r, HR⟩ : ∃ r, Hid (r = bitsN s) := ⟨_, rfl⟩
  have hlen : Hid (r.length ≤ 25) := by show _ ≤ _; rw [HR.out]; exact bits_len s
  rw [← HR.out]
  go_enter Tryz.func63, Tryz.ntmps63
  go_wp2_with (at_make; refine wpList_make_own _ rfl _ _ 107 rfl w.heap.size 5 i0 _ 1 Tryz.underlying107 hi hz0 hz1 _ _ _ 25 rfl rfl ?_ ?_ ?_ ?_ ?_)
  · rfl
  · rw [hz2]; omega
  · unfold maxLen; omega
  · exact Nat.le_refl _
  intro w1 hown hg1
  have B1 : Below w.heap.size w w1 := (Below.refl _ _).grown hg1 (Nat.le_refl _) (by simp)
  have hown := Lib.hid hown
  clear hz0 hz1 hz2 hi hg1
  go_wp2
  go_loopw [0, 3] (fun t v wr => ∃ (x : Nat) (l : List Nat), x < 33554432 ∧ t = .int .u64 x ∧ Hid (r = l ++ bitsN x) ∧ Hid (wr.ownsRow w.heap.size 5 1 v l.length (byC l)) ∧ Below w.heap.size w wr) (fun t _ _ => (intOf t).toNat)
  case atStart => exact ⟨s, [], hs, rfl, HR.out, hown, B1⟩
  case round =>
    obtain ⟨x, l, hx, rfl, hr, ho, hb⟩ := hrel
    have hsz := hb.size
    by_cases h0 : x = 0
    · subst h0
      have hfin : Hid (r = l) := by show _ = _; rw [hr.out, bits_zero, List.append_nil]
      have hn : (((0 : Nat) : Int) != 0) = false := rfl
      go_wp2
      go_ret
      exact ⟨_, rfl, by rw [hfin.out]; exact ho.out, hb⟩
    · obtain ⟨hk, hlt, hst⟩ := bits_step x h0 hx
      have hn : ((x : Int) != 0) = true := by simp; omega
      have hwr := u8_small _ hk
      have hw1 : IntKind.u64.wrap ((x : Int) - 1) = ((x - 1 : Nat) : Int) := by rw [IntKind.wrap_u64]; omega
      have hand := bits_and_u64_nat x (x - 1) (by omega) (by omega)
      obtain ⟨y, hy⟩ : ∃ y, x &&& (x - 1) = y := ⟨_, rfl⟩
      rw [hy] at hand hlt hst
      have hr2 : Hid (r = (l ++ [Lib.ctz 64 x]) ++ bitsN y) := by show _ = _; rw [hr.out, hst, List.append_assoc]; rfl
      have hll : Hid (l.length < 25) := by
        have h1 := hlen.out
        rw [hr2.out, List.length_append, List.length_append] at h1
        show _ < _
        simp at h1; omega
      have C := Lib.hid fun w' (hb' : Below w.heap.size w w') => tz_any x w' hx (hT.all hb')
      clear hst hy h0
      generalize Lib.ctz 64 x = k at *
      have hrd := Lib.hid (Rd.lit wr 5 1 1 #[.int .u8 (k : Int)] (0, 0) rfl (by omega))
      go_wp2_with fail
      refine (C.out _ hb).mono ?_
      rintro e w2 ⟨rfl, rfl⟩
      go_wp2_with (at_builtin; refine wpList_appR _ rfl (.tmp 11) (.tmp 15) 107 5 rfl _ 1 1 Tryz.underlying107 infoBy rfl (by decide) w.heap.size rfl rfl (World.ownsRow.alloc ho.out _) hrd.out ?_ ?_ ?_ ?_ ?_)
      · intro u hu; simp at hu; subst hu; rfl
      · unfold maxLen; have := hll.out; omega
      · have := hll.out; omega
      · simp; omega
      intro v' w3 ho2 hg2 hat
      have hb2 : Below w.heap.size w w3 := (hb.alloc hsz _).grown hg2 (by simp; omega) fun j hj => (ho.out.lt j hj).1
      have ho3 : Hid (w3.ownsRow w.heap.size 5 1 v' (l ++ [k]).length (byC (l ++ [k]))) := by
        show World.ownsRow _ _ _ _ _ _ _
        rw [byC_app, List.length_append]; exact ho2
      have hy : y < 33554432 := by omega
      clear ho2 hg2 hat ho C hrd hwr
      go_wp2
      go_roundw
      case rel => exact ⟨y, l ++ [k], hy, rfl, hr2, ho3, hb2⟩
      case measure => simp [intOf]; omega
end Go.Proofs.YtkbileabkfccgaaGreatDoor

/- match: a frame, as it lies in memory; spot, link, join, next. -/
namespace Go.Proofs.YtkbileabkfccgaaGreatDoor
open Go.RowKit

/-- a frame: the names by spot, what may come behind each -/
structure Fm where
  ns : List ByteArray
  bh : List Nat
/-- a part: where it may begin, where it may end, may it be nothing -/
structure Pa where
  f : Nat
  l : Nat
  e : Bool
def paV (p : Pa) : Value := .agg #[.int .u64 (p.f : Int), .int .u64 (p.l : Int), .bool p.e]
def Pa.Ok (p : Pa) : Prop := p.f < 33554432 ∧ p.l < 33554432
def seC (l : List Nat) : List Value := l.map fun i : Nat => Value.int .u64 (i : Int)
theorem seC_app (l m : List Nat) : seC (l ++ m) = seC l ++ seC m := by simp [seC]
theorem seC_get (l : List Nat) (k : Nat) (hk : k < l.length) : (seC l)[k]? = some (.int .u64 (l[k] : Int)) := by simp [seC, hk]

theorem own_cell {w : World} {base sz n : Nat} {e : TypeId} {v : Value} {cs : List Value} (h : w.ownsRow base e sz v n cs) {p : Addr} (u : Value) (hp : v.ownBlock ≠ some p.block) : (w.setCell p u).ownsRow base e sz v n cs :=
  World.ownsRow.kept h (row := some p.block) ⟨rfl, rfl, rfl, by simp, fun k _ hn => Below.heap_setCell w p u k (fun e => hn (by rw [e]))⟩ (.inr hp)
/-- the blocks of S are as they were -/
structure Kp (S : Nat → Prop) (w w' : World) : Prop where
  os : w'.os = w.os
  tape : w'.tape = w.tape
  output : w'.output = w.output
  size : w.heap.size ≤ w'.heap.size
  block : ∀ k, S k → w'.heap[k]? = w.heap[k]?
/-- the blocks of S are there -/
def In (S : Nat → Prop) (w : World) : Prop := ∀ k, S k → k < w.heap.size
section
variable {S S' : Nat → Prop} {a w w' : World}
theorem Kp.refl (S : Nat → Prop) (w : World) : Kp S w w := ⟨rfl, rfl, rfl, Nat.le_refl _, fun _ _ => rfl⟩
theorem Kp.trans (h : Kp S a w) (k : Kp S w w') : Kp S a w' := ⟨k.os.trans h.os, k.tape.trans h.tape, k.output.trans h.output, Nat.le_trans h.size k.size, fun i hi => (k.block i hi).trans (h.block i hi)⟩
theorem Kp.mono (h : Kp S w w') (hS : ∀ k, S' k → S k) : Kp S' w w' := ⟨h.os, h.tape, h.output, h.size, fun k hk => h.block k (hS k hk)⟩
theorem Kp.below (h : Kp S a w) (k : Below w.heap.size w w') (hi : In S w) : Kp S a w' := h.trans ⟨k.os, k.tape, k.output, k.size, fun i hs => k.block i (hi i hs)⟩
theorem Kp.of (k : Below w.heap.size w w') (hi : In S w) : Kp S w w' := (Kp.refl S w).below k hi
theorem Kp.alloc (h : Kp S a w) (hi : In S w) (o : Obj) : Kp S a (w.alloc o) := h.below (box1 w o) hi
theorem Kp.setCell (h : Kp S a w) {p : Addr} (hp : ¬ S p.block) (u : Value) : Kp S a (w.setCell p u) := h.trans ⟨rfl, rfl, rfl, by simp, fun i hi => Below.heap_setCell w p u i (fun e => hp (e ▸ hi))⟩
theorem Kp.set3 (h : Kp S a w) {b : Nat} (hb : ¬ S b) (v0 v1 v2 : Value) : Kp S a (((w.setCell ⟨b, 0, none⟩ v0).setCell ⟨b, 1, none⟩ v1).setCell ⟨b, 2, none⟩ v2) :=
  ((h.setCell (p := ⟨b, 0, none⟩) hb v0).setCell (p := ⟨b, 1, none⟩) hb v1).setCell (p := ⟨b, 2, none⟩) hb v2
theorem Kp.drewN (h : Kp S a w) (n : Nat) : Kp S a (w.drewN n) := ⟨h.os, h.tape, h.output, h.size, h.block⟩
theorem Kp.grown (h : Kp S a w) {row : Option Nat} (hg : w.grownBy w' row) (hi : In S w) (hr : ∀ k, row = some k → ¬ S k) : Kp S a w' :=
  h.trans ⟨hg.os, hg.tape, hg.output, hg.size, fun i hs => hg.block i (hi i hs) (fun e => hr i e.symm hs)⟩
theorem In.kp (h : In S w) (k : Kp S w w') : In S w' := fun i hi => Nat.lt_of_lt_of_le (h i hi) k.size
theorem In.le (h : In S w) (k : w.heap.size ≤ w'.heap.size) : In S w' := fun i hi => Nat.lt_of_lt_of_le (h i hi) k
theorem Kp.cell (h : Kp S w w') {p : Addr} (hp : S p.block) : w'.cell? p = w.cell? p := World.cell?_of_block (w := w) (h.block p.block hp)
theorem Kp.frozen (h : Kp S w w') {p : Addr} (hp : S p.block) : w'.frozen? p = w.frozen? p := World.frozen?_of_block (w := w) (h.block p.block hp)
theorem Kp.toBelow {B : Nat} (h : Kp S w w') (hS : ∀ k, k < B → S k) : Below B w w' := ⟨h.os, h.tape, h.output, h.size, fun k hk => h.block k (hS k hk)⟩
theorem Bk.kp {g : Nat} {t : TypeId} {cs : Array Value} (h : Bk w g t cs) (k : Kp S w w') (hg : S g) : Bk w' g t cs := (k.block g hg).trans h
end
/-- block g holds frame f, whose rows vn and vb are the call's own; none of it lies in blocks of S; ends are the spots that end -/
structure FrV (w : World) (S : Nat → Prop) (g : Nat) (vn vb : Value) (f : Fm) (ends : Nat) : Prop where
  k : Bk w g 98 #[vn, vb, .int .u64 (ends : Int)]
  b : ¬ S g
  o1 : w.ownsRow 0 9 1 vn f.ns.length (txC f.ns)
  o2 : w.ownsRow 0 96 1 vb f.bh.length (seC f.bh)
  s1 : ∀ k, vn.ownBlock = some k → ¬ S k
  s2 : ∀ k, vb.ownBlock = some k → ¬ S k
  d : vn.ownBlock = none ∨ vn.ownBlock ≠ vb.ownBlock
  n1 : some g ≠ vn.ownBlock
  n2 : some g ≠ vb.ownBlock
def Fr (w : World) (S : Nat → Prop) (g : Nat) (f : Fm) (ends : Nat) : Prop := ∃ vn vb, FrV w S g vn vb f ends
def Fm.Ok (f : Fm) : Prop := f.ns.length ≤ 25 ∧ f.bh.length = f.ns.length ∧ ∀ x ∈ f.bh, x < 33554432
section
variable {w w' : World} {S S' : Nat → Prop} {g : Nat} {vn vb v' : Value} {f : Fm} {ends : Nat}
theorem FrV.all (h : FrV w S g vn vb f ends) (hb : Below w.heap.size w w') : FrV w' S g vn vb f ends :=
  ⟨h.k.all hb, h.b, own_all h.o1 hb, own_all h.o2 hb, h.s1, h.s2, h.d, h.n1, h.n2⟩
theorem FrV.alloc (h : FrV w S g vn vb f ends) (o : Obj) : FrV (w.alloc o) S g vn vb f ends := h.all (box1 w o)
theorem FrV.drewN (h : FrV w S g vn vb f ends) (n : Nat) : FrV (w.drewN n) S g vn vb f ends := h.all (beN (Below.refl _ _) n)
/-- block p is another one -/
theorem FrV.far (h : FrV w S g vn vb f ends) {p : Addr} (u : Value) (hg : g ≠ p.block) (h1 : vn.ownBlock ≠ some p.block) (h2 : vb.ownBlock ≠ some p.block) : FrV (w.setCell p u) S g vn vb f ends :=
  ⟨h.k.far hg u, h.b, own_cell h.o1 u h1, own_cell h.o2 u h2, h.s1, h.s2, h.d, h.n1, h.n2⟩
theorem FrV.far3 (h : FrV w S g vn vb f ends) {b : Nat} (v0 v1 v2 : Value) (hg : g ≠ b) (h1 : vn.ownBlock ≠ some b) (h2 : vb.ownBlock ≠ some b) :
    FrV (((w.setCell ⟨b, 0, none⟩ v0).setCell ⟨b, 1, none⟩ v1).setCell ⟨b, 2, none⟩ v2) S g vn vb f ends :=
  ((h.far (p := ⟨b, 0, none⟩) v0 hg h1 h2).far (p := ⟨b, 1, none⟩) v1 hg h1 h2).far (p := ⟨b, 2, none⟩) v2 hg h1 h2
theorem FrV.app1 (h : FrV w S g vn vb f ends) (hi : In S w) {n : ByteArray} (ho : w'.ownsRow 0 9 1 v' (f.ns.length + 1) (txC f.ns ++ [.string n])) (hg : w.grownBy w' vn.ownBlock) (hat : v'.ownBlock = vn.ownBlock ∨ v'.ownBlock = some w.heap.size) :
    FrV (w'.setCell ⟨g, 0, none⟩ v') S g v' vb ⟨f.ns ++ [n], f.bh⟩ ends := by
  have hgl := h.k.lt
  have hv'g : some g ≠ v'.ownBlock := by
    rcases hat with e | e
    · rw [e]; exact h.n1
    · rw [e]; intro e2; simp at e2; omega
  have hvb : vb.ownBlock = none ∨ vb.ownBlock ≠ vn.ownBlock := by
    rcases h.d with e | e
    · rw [e]; cases vb.ownBlock <;> simp
    · exact .inr fun e2 => e e2.symm
  have hs : ∀ k, v'.ownBlock = some k → ¬ S k := by
    intro k hk hsk
    rcases hat with e | e
    · rw [e] at hk; exact h.s1 k hk hsk
    · rw [e] at hk; have := hi k hsk; simp at hk; omega
  have o2 := World.ownsRow.kept h.o2 hg hvb
  refine ⟨?_, h.b, ?_, own_cell o2 v' (fun e => h.n2 e.symm), hs, h.s2, ?_, hv'g, h.n2⟩
  · have := (h.k.grown hg h.n1).set 0 v'; simpa using this
  · have := own_cell ho (p := ⟨g, 0, none⟩) v' (fun e => hv'g e.symm)
    simpa [txC] using this
  · rcases hat with e | e
    · rw [e]; exact h.d
    · rw [e]; refine .inr fun e2 => ?_
      have := (h.o2.lt _ e2.symm).2; omega
theorem FrV.app2 (h : FrV w S g vn vb f ends) (hi : In S w) {x : Nat} (ho : w'.ownsRow 0 96 1 v' (f.bh.length + 1) (seC f.bh ++ [.int .u64 (x : Int)])) (hg : w.grownBy w' vb.ownBlock) (hat : v'.ownBlock = vb.ownBlock ∨ v'.ownBlock = some w.heap.size) :
    FrV (w'.setCell ⟨g, 1, none⟩ v') S g vn v' ⟨f.ns, f.bh ++ [x]⟩ ends := by
  have hgl := h.k.lt
  have hv'g : some g ≠ v'.ownBlock := by
    rcases hat with e | e
    · rw [e]; exact h.n2
    · rw [e]; intro e2; simp at e2; omega
  have hs : ∀ k, v'.ownBlock = some k → ¬ S k := by
    intro k hk hsk
    rcases hat with e | e
    · rw [e] at hk; exact h.s2 k hk hsk
    · rw [e] at hk; have := hi k hsk; simp at hk; omega
  have o1 := World.ownsRow.kept h.o1 hg h.d
  refine ⟨?_, h.b, own_cell o1 v' (fun e => h.n1 e.symm), ?_, h.s1, hs, ?_, h.n1, hv'g⟩
  · have := (h.k.grown hg h.n2).set 1 v'; simpa using this
  · have := own_cell ho (p := ⟨g, 1, none⟩) v' (fun e => hv'g e.symm)
    simpa [seC] using this
  · rcases hat with e | e
    · rw [e]; exact h.d
    · rw [e]
      rcases Option.eq_none_or_eq_some vn.ownBlock with hn | ⟨k, hk⟩
      · exact .inl hn
      · refine .inr fun e2 => ?_
        have := (h.o1.lt _ e2).2; omega
theorem Fr.all (h : Fr w S g f ends) (hb : Below w.heap.size w w') : Fr w' S g f ends := by obtain ⟨vn, vb, h⟩ := h; exact ⟨vn, vb, h.all hb⟩
theorem Fr.lt (h : Fr w S g f ends) : g < w.heap.size := by obtain ⟨_, _, h⟩ := h; exact h.k.lt
theorem FrV.smono (h : FrV w S g vn vb f ends) (hS : ∀ k, S' k → S k) : FrV w S' g vn vb f ends :=
  ⟨h.k, fun hs => h.b (hS _ hs), h.o1, h.o2, fun k hk hs => h.s1 k hk (hS _ hs), fun k hk hs => h.s2 k hk (hS _ hs), h.d, h.n1, h.n2⟩
theorem FrV.also (h : FrV w S g vn vb f ends) (n m : Nat) (hn : w.heap.size ≤ n) : FrV w (fun k => S k ∨ (n ≤ k ∧ k < m)) g vn vb f ends :=
  ⟨h.k, fun hs => hs.elim h.b (fun e => by have := h.k.lt; omega), h.o1, h.o2, fun k hk hs => hs.elim (h.s1 k hk) (fun e => by have := (h.o1.lt k hk).2; omega), fun k hk hs => hs.elim (h.s2 k hk) (fun e => by have := (h.o2.lt k hk).2; omega), h.d, h.n1, h.n2⟩
theorem In.also (h : In S w) (n m : Nat) (hw : w.heap.size ≤ w'.heap.size) (hm : m ≤ w'.heap.size) : In (fun k => S k ∨ (n ≤ k ∧ k < m)) w' := fun k hk => hk.elim (fun e => Nat.lt_of_lt_of_le (h k e) hw) (fun e => by omega)
end
theorem infoSe : (Tryz.prog.info? 96).map (fun i => (i.zero, i.size, i.bytes)) = some (some (.int .u64 0), 1, 8) := by kernel_rfl

/-- the three cells of a part, in block b -/
theorem Bk.three {w : World} {b : Nat} {t : TypeId} {c0 c1 c2 : Value} (h : Bk w b t #[c0, c1, c2]) :
    (w.cell? ⟨b, 0, none⟩ = some c0 ∧ w.cell? ⟨b, 1, none⟩ = some c1 ∧ w.cell? ⟨b, 2, none⟩ = some c2) ∧ (w.frozen? ⟨b, 0, none⟩ = false ∧ w.frozen? ⟨b, 1, none⟩ = false ∧ w.frozen? ⟨b, 2, none⟩ = false) :=
  ⟨⟨h.cell 0, h.cell 1, h.cell 2⟩, h.frozen 0, h.frozen 1, h.frozen 2⟩
theorem Bk.set3 {w : World} {b : Nat} {t : TypeId} {c0 c1 c2 : Value} (h : Bk w b t #[c0, c1, c2]) (v0 v1 v2 : Value) :
    Bk (((w.setCell ⟨b, 0, none⟩ v0).setCell ⟨b, 1, none⟩ v1).setCell ⟨b, 2, none⟩ v2) b t #[v0, v1, v2] := by
  have h5 := ((h.set 0 v0).set 1 v1).set 2 v2
  simpa using h5

theorem Bk.far3 {w : World} {g b : Nat} {t : TypeId} {cs : Array Value} (h : Bk w g t cs) (hg : g ≠ b) (v0 v1 v2 : Value) : Bk (((w.setCell ⟨b, 0, none⟩ v0).setCell ⟨b, 1, none⟩ v1).setCell ⟨b, 2, none⟩ v2) g t cs :=
  ((h.far (p := ⟨b, 0, none⟩) hg v0).far (p := ⟨b, 1, none⟩) hg v1).far (p := ⟨b, 2, none⟩) hg v2

def spotM (f : Fm) (n : ByteArray) : Fm × Pa := (⟨f.ns ++ [n], f.bh ++ [0]⟩, ⟨2 ^ f.ns.length, 2 ^ f.ns.length, false⟩)
/-- a method of a frame hands back part p, and leaves frame f -/
def PaR (w : World) (S : Nat → Prop) (g : Nat) (ends : Nat) (r : Fm × Pa) (x : Ending) (w' : World) : Prop := x = .returned (paV r.2) ∧ Fr w' S g r.1 ends ∧ Kp S w w'
theorem u64_pow (n : Nat) (h : n < 25) : IntKind.u64.wrap ((2 : Int) ^ n) = ((2 ^ n : Nat) : Int) := by
  have h1 : (2 : Int) ^ n = ((2 ^ n : Nat) : Int) := by simp
  have h2 : 2 ^ n < 2 ^ 25 := Nat.pow_lt_pow_right (by decide) h
  rw [h1]
  generalize 2 ^ n = P at h2 ⊢
  rw [IntKind.wrap_u64]; omega

set_option maxRecDepth 100000 in
theorem pa_ret {w W : World} {S : Nat → Prop} {g ends : Nat} {r : Fm × Pa} {fn : Func} {a : Act} (s b : Nat) (hf : fn.results = #[.cell s 100]) (h2 : a.tmps.getD s undef = .pointer (some ⟨b, 0, none⟩)) (hd : a.defers = [])
    (hk : Bk W b 100 #[.int .u64 (r.2.f : Int), .int .u64 (r.2.l : Int), .bool r.2.e]) (hr : Fr W S g r.1 ends) (hb : Kp S w W) : bodyPost Tryz.prog fn (PaR w S g ends r) .ret a W := by
  obtain ⟨⟨x0, x1, x2⟩, -⟩ := Bk.three hk
  refine bodyPost_ret (v := paV r.2) ?_ hd ⟨rfl, hr, hb⟩
  obtain ⟨tmps, defers⟩ := a
  have e2 : tmps[s]?.getD undef = .pointer (some ⟨b, 0, none⟩) := by simpa using h2
  simp [results, hf, e2, go_sem, x0, x1, x2, paV]

set_option maxRecDepth 100000 in
set_option maxHeartbeats 1600000 in
theorem spot_any (g : Nat) (f : Fm) (ends : Nat) (n : ByteArray) (S : Nat → Prop) (w : World) (h : Fr w S g f ends) (hn : f.ns.length < 25) (hS : In S w) (hlb : f.bh.length = f.ns.length) :
    Calls Tryz.prog 60 #[.pointer (some ⟨g, 0, none⟩), .string n] w (PaR w S g ends (spotM f n)) := by
  have hg := h.lt
  obtain ⟨vn, vb, h⟩ := h
  have hbl : f.bh.length < 25 := by omega
  clear hlb
  obtain ⟨w0, rfl⟩ : ∃ w0 : World, w0 = w := ⟨_, rfl⟩
  have HSN : Hid (¬ S w0.heap.size) := fun h => Nat.lt_irrefl _ (hS _ h)
  have HS := Lib.hid hS
  have HB1 : Hid (Kp S w0 (w0.alloc (.cells #[.int .u64 0, .int .u64 0, .bool false] 100))) := (Kp.refl _ _).alloc hS _
  have HGS := Lib.hid h.b
  clear hS
  have h1 := h.alloc (.cells #[.int .u64 0, .int .u64 0, .bool false] 100)
  have HP1 := Lib.hid (Bk.new w0 100 #[.int .u64 0, .int .u64 0, .bool false])
  have HL1 := Lib.hid h.o1.lt
  have HL2 := Lib.hid h.o2.lt
  clear h
  obtain ⟨A1, c1, rfl⟩ := own_form h1.o1
  obtain ⟨A2, c2, rfl⟩ := own_form h1.o2
  have k0 := (Bk.three h1.k).1.1
  have hrd := Rd.lit (w0.alloc (.cells #[.int .u64 0, .int .u64 0, .bool false] 100)) 9 1 1 #[.string n] (0, 0) rfl (by omega)
  rw [World.size_alloc] at hrd
  have HRD := Lib.hid hrd
  clear hrd
  have HF1 := Lib.hid (h1.alloc (.cells #[.string n] 9))
  have hsh := u64_pow _ hn
  obtain ⟨P, HP⟩ : ∃ P : Nat, Hid (P = 2 ^ f.ns.length) := ⟨_, rfl⟩
  rw [← HP.out] at hsh
  have hm : spotM f n = (⟨f.ns ++ [n], f.bh ++ [0]⟩, ⟨P, P, false⟩) := by unfold spotM; rw [HP.out]
  rw [hm]
  clear h1 hm
  go_enter Tryz.func60, Tryz.ntmps60
  go_wp2_with (at_builtin; refine wpList_appR _ rfl (.tmp 16) (.tmp 18) 41 9 rfl _ 1 16 Tryz.underlying41 infoTx rfl (by decide) 0 rfl rfl HF1.out.o1 HRD.out ?_ ?_ ?_ ?_ ?_)
  · first | rfl | (intro u hu; simp at hu; subst hu; rfl)
  · unfold maxLen; omega
  · omega
  intro v1 w2 ho hg1 hat
  have HF2 := Lib.hid (HF1.out.app1 (HS.out.le (by simp; omega)) ho hg1 (by simpa using hat))
  have HB2 : Hid (Kp S w0 (w2.setCell ⟨g, 0, none⟩ v1)) := ((HB1.out.alloc (HS.out.kp HB1.out) _).grown hg1 (HS.out.le (by simp; omega)) HF1.out.s1).setCell HGS.out _
  have HP2 : Hid (Bk (w2.setCell ⟨g, 0, none⟩ v1) w0.heap.size 100 #[.int .u64 0, .int .u64 0, .bool false]) := ((HP1.out.alloc _).grown hg1 (by
    intro e; have := (HL1.out _ e.symm).2; omega)).far (p := ⟨g, 0, none⟩) (by show w0.heap.size ≠ g; omega) _
  have hw2 : g < w2.heap.size := by have := hg1.size; simp at this; omega
  have hw2' : w0.heap.size < w2.heap.size := by have := hg1.size; simp at this; omega
  have HN3 : Hid (v1.ownBlock ≠ some w0.heap.size) := by
    intro e
    rcases hat with h | h
    · rw [e] at h; have := (HL1.out _ h.symm).2; omega
    · rw [e] at h; simp at h; omega
  obtain ⟨A3, c3, rfl⟩ := own_form ho
  have HS3 : Hid (In S (w2.setCell ⟨g, 0, none⟩ (.slice A3 (f.ns.length + 1) c3))) := HS.out.le (by simp; omega)
  have hgk := (HF1.out.k.grown hg1 HF1.out.n1)
  have g0 : w2.cell? ⟨g, 0, none⟩ = some (.slice A1 f.ns.length c1) := hgk.cell 0
  have f0 : w2.frozen? ⟨g, 0, none⟩ = false := hgk.frozen 0
  have g1 : w2.cell? ⟨g, 1, none⟩ = some (.slice A2 f.bh.length c2) := hgk.cell 1
  clear ho hg1 hat hgk k0 HF1 HB1 HP1 HRD HL1
  have hrd2 := Rd.lit (w2.setCell ⟨g, 0, none⟩ (.slice A3 (f.ns.length + 1) c3)) 96 1 1 #[.int .u64 0] (0, 0) rfl (by omega)
  rw [World.size_setCell] at hrd2
  have HRD := Lib.hid hrd2
  clear hrd2
  have HF3 := Lib.hid (HF2.out.alloc (.cells #[.int .u64 0] 96))
  have HP3 := Lib.hid (HP2.out.alloc (.cells #[.int .u64 0] 96))
  go_wp2_with (at_builtin; refine wpList_appR _ rfl (.tmp 26) (.tmp 27) 94 96 rfl _ 1 8 Tryz.underlying94 infoSe rfl (by decide) 0 rfl rfl HF3.out.o2 HRD.out ?_ ?_ ?_ ?_ ?_)
  · first | rfl | (intro u hu; simp at hu; subst hu; rfl)
  · unfold maxLen; omega
  · omega
  intro v4 w4 ho hg4 hat
  have HF4 := Lib.hid (HF3.out.app2 (HS3.out.le (by simp)) (x := 0) ho hg4 (by simpa using hat))
  have HB4 : Hid (Kp S w0 (w4.setCell ⟨g, 1, none⟩ v4)) := ((HB2.out.alloc HS3.out _).grown hg4 (HS3.out.le (by simp)) HF3.out.s2).setCell HGS.out _
  have HP4 : Hid (Bk (w4.setCell ⟨g, 1, none⟩ v4) w0.heap.size 100 #[.int .u64 0, .int .u64 0, .bool false]) := (HP3.out.grown hg4 (by
    intro e; have := (HL2.out _ e.symm).2; omega)).far (p := ⟨g, 1, none⟩) (by show w0.heap.size ≠ g; omega) _
  have hw4 : g < w4.heap.size := by have := hg4.size; simp at this; omega
  have hw4' : w0.heap.size < w4.heap.size := by have := hg4.size; simp at this; omega
  have HN4 : Hid (v4.ownBlock ≠ some w0.heap.size) := by
    intro e
    rcases hat with h | h
    · rw [e] at h; have := (HL2.out _ h.symm).2; omega
    · rw [e] at h; simp at h; omega
  obtain ⟨A4, c4, rfl⟩ := own_form ho
  have hgk := (HF3.out.k.grown hg4 HF3.out.n2)
  have g0' : w4.cell? ⟨g, 1, none⟩ = some (.slice A2 f.bh.length c2) := hgk.cell 1
  have f0' : w4.frozen? ⟨g, 1, none⟩ = false := hgk.frozen 1
  obtain ⟨⟨x0, x1, x2⟩, y0, y1, y2⟩ := Bk.three HP4.out
  clear ho hg4 hat hgk HF3 HP3 HRD HB2 HP2 g0 f0 g1
  go_wp2_with fail
  have hres : Bk ((((w4.setCell ⟨g, 1, none⟩ (.slice A4 (f.bh.length + 1) c4)).setCell ⟨w0.heap.size, 0, none⟩ (.int .u64 (P : Int))).setCell ⟨w0.heap.size, 1, none⟩ (.int .u64 (P : Int))).setCell ⟨w0.heap.size, 2, none⟩ (.bool false)) w0.heap.size 100 #[.int .u64 (P : Int), .int .u64 (P : Int), .bool false] := Bk.set3 HP4.out _ _ _
  exact pa_ret 4 w0.heap.size Tryz.results60 rfl rfl hres ⟨_, _, HF4.out.far3 _ _ _ (by omega) HN3.out HN4.out⟩ (HB4.out.set3 HSN.out _ _ _)
end Go.Proofs.YtkbileabkfccgaaGreatDoor
