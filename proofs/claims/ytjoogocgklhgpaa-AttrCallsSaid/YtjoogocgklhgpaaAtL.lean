/- attr: one attribute, one spec. -/
import Derived.Test.YtjoogocgklhgpaaAtA
namespace Go.Proofs.Ytjoogocgklhgpaa
open Go.RowKit

structure At where
  n : ByteArray
  v : ByteArray
structure Sp where
  n : ByteArray
  d : ByteArray
  m : Bool
def At.c (a : At) : List Value := [.string a.n, .string a.v]
def Sp.c (a : Sp) : List Value := [.string a.n, .string a.d, .bool a.m]
def At.val (a : At) : Value := .agg #[.string a.n, .string a.v]
def Sp.val (a : Sp) : Value := .agg #[.string a.n, .string a.d, .bool a.m]
def longB (a : At) : Bool := decide (16 < a.n.size) || decide (64 < a.v.size)
def hasN (n : ByteArray) (a : At) : Bool := a.n.toList == n.toList
def needlessB (a : Sp) : Bool := a.m && !a.d.toList.isEmpty

set_option maxRecDepth 100000 in
theorem long_any (a : At) (w : World) :
    Calls Try.prog 32 #[.agg #[.string a.n, .string a.v]] w fun e w' => e = .returned (.bool (longB a)) ∧ Below w.heap.size w w' := by
  by_cases h1 : 16 < a.n.size
  · have hfin : Hid (longB a = true) := by show _ = _; unfold longB; simp [h1]
    go_enter Try.func32, Try.ntmps32
    go_wp2
    go_ret
    exact ⟨ret_bool hfin.out.symm, (Below.refl _ _).alloc (Nat.le_refl _) _⟩
  · go_enter Try.func32, Try.ntmps32
    go_wp2
    go_ret
    exact ⟨ret_bool (by unfold longB; rw [Bool.eq_iff_iff]; simp; omega), (Below.refl _ _).alloc (Nat.le_refl _) _⟩

set_option maxRecDepth 100000 in
theorem needless_any (a : Sp) (w : World) :
    Calls Try.prog 36 #[.agg #[.string a.n, .string a.d, .bool a.m]] w fun e w' => e = .returned (.bool (needlessB a)) ∧ Below w.heap.size w w' := by
  obtain ⟨n, d, m⟩ := a
  cases m
  · go_enter Try.func36, Try.ntmps36
    go_wp2
    go_ret
    exact ⟨rfl, (Below.refl _ _).alloc (Nat.le_refl _) _⟩
  · go_enter Try.func36, Try.ntmps36
    go_wp2
    go_ret
    exact ⟨rfl, (Below.refl _ _).alloc (Nat.le_refl _) _⟩

set_option maxRecDepth 100000 in
theorem named_any (s : Sp) (a : At) (w : World) :
    Calls Try.prog 40 #[.agg #[.string s.n, .string s.d, .bool s.m], .agg #[.string a.n, .string a.v]] w fun e w' => e = .returned (.bool (s.n.toList == a.n.toList)) ∧ Below w.heap.size w w' := by
  go_enter Try.func40, Try.ntmps40
  go_wp2
  go_ret
  exact ⟨rfl, ((Below.refl _ _).alloc (Nat.le_refl _) _).alloc (by simp) _⟩

set_option maxRecDepth 100000 in
theorem filled_any (s : Sp) (w : World) :
    Calls Try.prog 30 #[.agg #[.string s.n, .string s.d, .bool s.m]] w fun e w' => e = .returned (.agg #[.string s.n, .string s.d]) ∧ Below w.heap.size w w' := by
  go_enter Try.func30, Try.ntmps30
  go_wp2
  exact bodyPost_ret (v := .agg #[.string s.n, .string s.d]) (by simp [results, Try.results30, go_sem]) rfl ⟨rfl, (((Below.refl _ _).alloc (Nat.le_refl _) _).alloc (by simp) _)⟩

set_option maxRecDepth 100000 in
theorem findOne_any (a : At) (p : Addr) (n : ByteArray) (w : World) (hp : w.cell? p = some (.string n)) (hb : p.block < w.heap.size) :
    Calls Try.prog 47 #[.agg #[.string a.n, .string a.v], .pointer (some p)] w fun e w' => e = .returned (.bool (hasN n a)) ∧ Below w.heap.size w w' := by
  go_enter Try.func47, Try.ntmps47
  go_wp2
  go_ret
  exact ⟨rfl, (Below.refl _ _).alloc (Nat.le_refl _) _⟩

theorem lt_of_ne {a b : ByteArray} (h : Op.bytesLess a.toList b.toList = false) (k : (!a.toList == b.toList) = true) : ltS b a = true := by
  by_cases e : ltS b a = true
  · exact e
  · have e1 := ltS_tri (a := a) (b := b) h (by simpa using e)
    subst e1
    simp at k
def cmpS (a b : ByteArray) : Int := if ltS a b then -1 else if ltS b a then 1 else 0
def cmpI (a b : Int) : Int := if a < b then -1 else if b < a then 1 else 0

set_option maxRecDepth 100000 in
theorem cmpNanS_any (a : ByteArray) (w : World) : Calls Try.prog 48 #[.string a] w fun e w' => e = .returned (.bool false) ∧ w = w' := by
  go_enter Try.func48, Try.ntmps48
  go_wp2
  go_ret
  exact ⟨by simp, rfl⟩
set_option maxRecDepth 100000 in
theorem cmpNanI_any (a : Int) (w : World) : Calls Try.prog 49 #[.int .i64 a] w fun e w' => e = .returned (.bool false) ∧ w = w' := by
  go_enter Try.func49, Try.ntmps49
  go_wp2
  go_ret
  exact ⟨by simp, rfl⟩
set_option maxRecDepth 100000 in
theorem cmpS_any (a b : ByteArray) (w : World) : Calls Try.prog 41 #[.string a, .string b] w fun e w' => e = .returned (.int .i64 (cmpS a b)) ∧ w = w' := by
  go_enter Try.func41, Try.ntmps41
  go_wp2_with fail
  refine (cmpNanS_any _ _).mono ?_
  rintro e w1 ⟨rfl, rfl⟩
  go_wp2_with fail
  refine (cmpNanS_any _ _).mono ?_
  rintro e w1 ⟨rfl, rfl⟩
  go_wp2
  · rename_i h
    go_ret
    exact ⟨ret_int (by simp [cmpS, ltS, h]), rfl⟩
  · rename_i k
    have h : Op.bytesLess a.toList b.toList = false := by assumption
    go_ret
    exact ⟨ret_int (by unfold cmpS ltS; rw [if_neg (by simp [h]), if_pos]; simpa [ltS] using lt_of_ne h k), rfl⟩
  · rename_i h k
    have e : a = b := (eqS_iff a b).1 (by simpa using k)
    subst e
    go_ret
    exact ⟨ret_int (by simp [cmpS, ltS_irr]), rfl⟩

set_option maxRecDepth 100000 in
theorem cmpI_any (a b : Int) (w : World) : Calls Try.prog 42 #[.int .i64 a, .int .i64 b] w fun e w' => e = .returned (.int .i64 (cmpI a b)) ∧ w = w' := by
  go_enter Try.func42, Try.ntmps42
  go_wp2_with fail
  refine (cmpNanI_any _ _).mono ?_
  rintro e w1 ⟨rfl, rfl⟩
  go_wp2_with fail
  refine (cmpNanI_any _ _).mono ?_
  rintro e w1 ⟨rfl, rfl⟩
  go_wp2
  · rename_i h
    go_ret
    exact ⟨ret_int (by simp [cmpI, h]), rfl⟩
  · rename_i h k
    go_ret
    exact ⟨ret_int (by unfold cmpI; rw [if_neg (by omega), if_pos (by omega)]), rfl⟩
  · rename_i h k
    go_ret
    exact ⟨ret_int (by unfold cmpI; rw [if_neg (by omega), if_neg (by omega)]), rfl⟩
end Go.Proofs.Ytjoogocgklhgpaa
