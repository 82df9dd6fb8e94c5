/- The walks of AttrNames, AttrChecks, AttrCalls. -/
import Derived.Test.YtjoogocgklhgpaaAtV
namespace Go.Proofs.Ytjoogocgklhgpaa
open Go.RowKit

def sFoo : ByteArray := ⟨#[102, 111, 111]⟩
def sNl : ByteArray := ⟨#[10]⟩
def sabc : ByteArray := ⟨#[97, 98, 99]⟩
def sAbc : ByteArray := ⟨#[65, 98, 99]⟩
theorem ex4 : fillE specs0 [⟨sFoo, s1⟩, ⟨sSrc, sA⟩] = 6 := by decide +kernel
theorem ex5 : checkN [⟨sA, sNl⟩] = 2 := by decide +kernel
theorem ex6 : checkN (List.replicate 9 At.z) = 3 := by decide +kernel
theorem ex7 : nameB sabc = true := by decide +kernel
theorem ex8 : nameB sAbc = false := by decide +kernel
theorem ex9 : nameB .empty = false := by decide +kernel

set_option maxRecDepth 100000 in
set_option maxHeartbeats 2000000 in
theorem attrNames_walk (w : World) : Calls Try.prog 3 #[] w (Yes w) := by
  go_enter Try.func3, Try.ntmps3
  go_wp2_with fail
  refine (specs_any w).mono ?_
  rintro e w1 ⟨v1, rfl, sp1, b1⟩
  go_wp2_with fail
  refine (fill_any v1 _ specs0 [⟨sFoo, s1⟩, ⟨sSrc, sA⟩] (w1.heap.size + 1) _ ((sp1.below ((Below.refl _ _).alloc (Nat.le_refl _) _)).mono (Nat.le_succ _)) (Rd.lit w1 29 2 2 #[.string sFoo, .string s1, .string sSrc, .string sA] (0, 0) rfl (by omega)) (by simp) (by unfold Reach specs0; simp)).mono ?_
  rintro e w2 ⟨v2, rfl, _, b2⟩
  rw [ex4]
  have B2 := (b1.alloc b1.size _).trans (b2.mono (by have := b1.size; simp; omega))
  clear sp1 b1 b2
  go_wp2_with fail
  refine (lives_any w2).mono ?_
  rintro e w3 ⟨rfl, b3⟩
  have B3 := B2.trans (b3.mono B2.size)
  clear b3 B2
  have hs3 := B3.size
  go_wp2_with fail
  refine (check_any _ [⟨sA, sNl⟩] (w3.heap.size + 1) _ (Rd.lit w3 29 2 1 #[.string sA, .string sNl] (0, 0) rfl (by omega)) (by simp)).mono ?_
  rintro e w4 ⟨rfl, b4⟩
  rw [ex5]
  have B4 := (B3.alloc hs3 _).trans (b4.mono (by simp; omega))
  clear b4 B3 hs3
  have hs4 := B4.size
  have hmk : ∀ w, (Instr.makeSlice 22 (.int .i64 9) (.int .i64 9)).run Try.prog w = .ok (.slice (some ⟨w.heap.size, 0, none⟩) 9 9) (w.alloc (.cells (atC (List.replicate 9 At.z)).toArray 29)) := fun _ => by kernel_rfl
  go_wp2_with fail
  refine (check_any _ (List.replicate 9 At.z) (w4.heap.size + 1) _ (Rd.lit w4 29 2 9 (atC (List.replicate 9 At.z)).toArray (0, 0) rfl (by omega)) (by simp)).mono ?_
  rintro e w6 ⟨rfl, b6⟩
  rw [ex6]
  have B6 := (B4.alloc hs4 _).trans (b6.mono (by simp; omega))
  clear b6 B4 hmk
  go_wp2_with fail
  refine (name_any sabc w6).mono ?_
  rintro e w7 ⟨rfl, b7⟩
  rw [ex7]
  have B7 := B6.trans (b7.mono B6.size)
  clear b7 B6
  go_wp2_with fail
  refine (name_any sAbc w7).mono ?_
  rintro e w8 ⟨rfl, b8⟩
  rw [ex8]
  have B8 := B7.trans (b8.mono B7.size)
  clear b8 B7
  go_wp2_with fail
  refine (name_any .empty w8).mono ?_
  rintro e w9 ⟨rfl, b9⟩
  rw [ex9]
  have B9 := B8.trans (b9.mono B8.size)
  go_wp2
  go_ret
  exact ⟨rfl, B9⟩

theorem beqB_self (b : Bool) : (b == b) = true := by cases b <;> rfl

set_option maxRecDepth 100000 in
set_option maxHeartbeats 2000000 in
theorem attrChecks_walk (s : ByteArray) (vl vp : Value) (l : List At) (p : List Sp) (B : Nat) (w : World) (hs : s.size ≤ maxLen) (hl : Ats w B vl l) (hp : Sps w B vp p) (hB : B ≤ w.heap.size) (hr : Reach p.length)
    (hs1 : Hid (∀ a ∈ p, a.n.size ≤ maxLen ∧ a.d.size ≤ maxLen)) (hs2 : Hid (∀ a ∈ l, a.n.size ≤ maxLen ∧ a.v.size ≤ maxLen)) :
    Calls Try.prog 4 #[.string s, vl, vp] w (Yes w) := by
  go_enter Try.func4, Try.ntmps4
  go_wp2_with fail
  refine (lives_any w).mono ?_
  rintro e w1 ⟨rfl, B1⟩
  go_wp2_with fail
  refine (name_any s w1).mono ?_
  rintro e w2 ⟨rfl, b2⟩
  have B2 := B1.trans (b2.mono B1.size)
  clear b2 B1
  generalize hx : nameB s = x
  have hx := Lib.hid hx
  go_wp2_with fail
  refine (refName_any s w2 hs).mono ?_
  rintro e w3 ⟨rfl, rfl⟩
  rw [hx.out]
  have hxx := beqB_self x
  go_wp2_with fail
  refine (value_any s w2).mono ?_
  rintro e w3 ⟨rfl, b3⟩
  have B3 := B2.trans (b3.mono B2.size)
  clear b3 B2
  generalize hy : valueB s = y
  have hy := Lib.hid hy
  go_wp2_with fail
  refine (refValue_any s w3 hs).mono ?_
  rintro e w4 ⟨rfl, rfl⟩
  rw [hy.out]
  have hyy := beqB_self y
  go_wp2_with fail
  refine (check_any vl l B w3 (hl.below (B3.mono hB)) (Nat.le_trans hB B3.size)).mono ?_
  rintro e w4 ⟨rfl, b4⟩
  have B4 := B3.trans (b4.mono B3.size)
  clear b4 B3
  generalize hz : checkN l = z
  have hz := Lib.hid hz
  go_wp2_with fail
  refine (refCheck_any vl l B w4 (hl.below (B4.mono hB)) (Nat.le_trans hB B4.size) hs2).mono ?_
  rintro e w5 ⟨rfl, b5⟩
  rw [hz.out]
  have B5 := B4.trans (b5.mono B4.size)
  clear b5 B4
  go_wp2_with fail
  refine (checkSpecs_any vp p B w5 (hp.below (B5.mono hB)) (Nat.le_trans hB B5.size) hr).mono ?_
  rintro e w6 ⟨rfl, b6⟩
  have B6 := B5.trans (b6.mono B5.size)
  clear b6 B5
  generalize hu : specN p = u
  have hu := Lib.hid hu
  go_wp2_with fail
  refine (refCheckSpecs_any vp p B w6 (hp.below (B6.mono hB)) (Nat.le_trans hB B6.size) hr hs1).mono ?_
  rintro e w7 ⟨rfl, b7⟩
  rw [hu.out]
  have B7 := B6.trans (b7.mono B6.size)
  clear b7 B6
  go_wp2
  go_ret
  exact ⟨rfl, B7⟩
end Go.Proofs.Ytjoogocgklhgpaa
