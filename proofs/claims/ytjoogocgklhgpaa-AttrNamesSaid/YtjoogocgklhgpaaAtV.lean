/- the chapter's examples of attr: 'lives' is true. -/
import Derived.Test.YtjoogocgklhgpaaAtE
namespace Go.Proofs.Ytjoogocgklhgpaa
open Go.RowKit

def sLevel : ByteArray := ⟨#[108, 101, 118, 101, 108]⟩
def sSrc : ByteArray := ⟨#[115, 114, 99]⟩
def s1 : ByteArray := ⟨#[49]⟩
def s2 : ByteArray := ⟨#[50]⟩
def sA : ByteArray := ⟨#[97]⟩
def sB : ByteArray := ⟨#[98]⟩
def specs0 : List Sp := [⟨sLevel, s1, false⟩, ⟨sSrc, .empty, true⟩]
theorem ex1 : fillE specs0 [⟨sSrc, sA⟩] = 0 := by decide +kernel
theorem ex1b : fillL specs0 [⟨sSrc, sA⟩] = [⟨sLevel, s1⟩, ⟨sSrc, sA⟩] := (eqA_iff _ _).1 (by decide +kernel)
theorem ex2 : fillE specs0 [] = 6 := by decide +kernel
theorem ex3 : checkN [⟨sB, s1⟩, ⟨sA, s2⟩] = 2 := by decide +kernel
/-- the call comes to true; what was there is as it was -/
def Yes (w : World) (e : Ending) (w' : World) : Prop := e = .returned (.bool true) ∧ Below w.heap.size w w'
def HasSps (w : World) (l : List Sp) (e : Ending) (w' : World) : Prop := ∃ v, e = .returned v ∧ Sps w' w'.heap.size v l ∧ Below w.heap.size w w'

set_option maxRecDepth 100000 in
theorem specs_any (w : World) : Calls Try.prog 9 #[] w (HasSps w specs0) := by
  go_enter Try.func9, Try.ntmps9
  go_wp2
  go_ret
  refine ⟨_, rfl, ?_, (Below.refl _ _).alloc (Nat.le_refl _) _⟩
  have := Rd.lit w 45 3 2 #[.string sLevel, .string s1, .bool false, .string sSrc, .string .empty, .bool true] (0, 0) rfl (by omega)
  exact this.mono (by simp)

set_option maxRecDepth 100000 in
set_option maxHeartbeats 2000000 in
theorem lives_any (w : World) : Calls Try.prog 10 #[] w (Yes w) := by
  go_enter Try.func10, Try.ntmps10
  go_wp2_with fail
  refine (specs_any w).mono ?_
  rintro e w1 ⟨v1, rfl, sp1, b1⟩
  go_wp2_with fail
  refine (fill_any v1 _ specs0 [⟨sSrc, sA⟩] (w1.heap.size + 1) _ ((sp1.below ((Below.refl _ _).alloc (Nat.le_refl _) _)).mono (Nat.le_succ _)) (Rd.lit w1 29 2 1 #[.string sSrc, .string sA] (0, 0) rfl (by omega)) (by simp) (by unfold Reach specs0; simp)).mono ?_
  rintro e w2 ⟨v2, rfl, o2, b2⟩
  rw [ex1b] at o2
  rw [ex1]
  have B2 := (b1.alloc b1.size _).trans (b2.mono (by have := b1.size; simp; omega))
  have o2 := Lib.hid o2
  clear sp1 b1 b2
  go_wp2_with fail
  refine (specs_any w2).mono ?_
  rintro e w3 ⟨v3, rfl, sp3, b3⟩
  have o3 := Lib.hid (own_all o2.out b3)
  have B3 := B2.trans (b3.mono B2.size)
  clear b3 B2 o2
  go_wp2_with fail
  refine (fill_any v3 _ specs0 [] w3.heap.size w3 sp3 (Ats.nil _ _) (Nat.le_refl _) (by unfold Reach specs0; simp)).mono ?_
  rintro e w4 ⟨v4, rfl, _, b4⟩
  rw [ex2]
  have o4 := Lib.hid (own_all o3.out b4)
  have B4 := B3.trans (b4.mono B3.size)
  clear b4 B3 o3 sp3
  have hs4 := B4.size
  go_wp2_with fail
  refine (attrs_any v2 _ [⟨sLevel, s1⟩, ⟨sSrc, sA⟩] [⟨sLevel, s1⟩, ⟨sSrc, sA⟩] (w4.heap.size + 1) _ (((Ats.own o4.out).below ((Below.refl _ _).alloc (Nat.le_refl _) _)).mono (Nat.le_succ _)) (Rd.lit w4 29 2 2 #[.string sLevel, .string s1, .string sSrc, .string sA] (0, 0) rfl (by omega)) (by simp)).mono ?_
  rintro e w5 ⟨rfl, b5⟩
  rw [eqA_self]
  have B5 := (B4.alloc hs4 _).trans (b5.mono (by simp; omega))
  clear b5 B4 o4
  have hs5 := B5.size
  go_wp2_with fail
  refine (check_any _ [⟨sB, s1⟩, ⟨sA, s2⟩] (w5.heap.size + 1) _ (Rd.lit w5 29 2 2 #[.string sB, .string s1, .string sA, .string s2] (0, 0) rfl (by omega)) (by simp)).mono ?_
  rintro e w6 ⟨rfl, b6⟩
  rw [ex3]
  have B6 := (B5.alloc hs5 _).trans (b6.mono (by simp; omega))
  go_wp2
  go_ret
  exact ⟨rfl, B6⟩
end Go.Proofs.Ytjoogocgklhgpaa
