/- attr: Check, CheckSpecs, Get. -/
import Derived.Test.YtjoogocgklhgpaaAtS
import Derived.OwnWalk
import Derived.Laws.AppendOwn
namespace Go.Proofs.Ytjoogocgklhgpaa
open Go.RowKit

set_option maxRecDepth 100000 in
theorem find_any (v : Value) (n : ByteArray) (l : List At) (B : Nat) (w : World) (hv : Ats w B v l) (hB : B ≤ w.heap.size) :
    Calls Try.prog 37 #[v, .string n] w fun e w' => e = .returned (.int .i64 (idx (hasN n) l)) ∧ Below w.heap.size w w' := by
  obtain ⟨A, cap, rfl⟩ := hv.form
  go_enter Try.func37, Try.ntmps37
  go_wp2_with fail
  refine (idxFind_any _ l w.heap.size _ ((hv.mono hB).below ((Below.refl _ _).alloc (Nat.le_refl _) _)) (by simp) ⟨w.heap.size, 0, none⟩ n (by go_simp) (by simp)).mono ?_
  rintro e w1 ⟨rfl, hb1⟩
  go_wp2
  go_ret
  exact ⟨rfl, ((Below.refl _ _).alloc (Nat.le_refl _) _).trans (hb1.mono (by simp))⟩

/-- what Get answers -/
def getP (l : List At) (n : ByteArray) : Option ByteArray := (l.find? (hasN n)).map (·.v)

set_option maxRecDepth 100000 in
theorem get_any (v : Value) (n : ByteArray) (l : List At) (B : Nat) (w : World) (hv : Ats w B v l) (hB : B ≤ w.heap.size) :
    Calls Try.prog 19 #[v, .string n] w fun e w' => e = .returned (.tuple #[.string ((getP l n).getD .empty), .bool (getP l n).isSome]) ∧ Below w.heap.size w w' := by
  obtain ⟨A, cap, rfl⟩ := hv.form
  by_cases h : l.any (hasN n) = true
  · obtain ⟨k, hk, hp, hall⟩ : ∃ k, ∃ (hk : k < l.length), hasN n l[k] = true ∧ ∀ j (hj : j < l.length), j < k → hasN n l[j] = false := by
      have hlt := List.findIdx_lt_length.2 (List.any_eq_true.1 h)
      exact ⟨_, hlt, List.findIdx_getElem, fun j hj hjk => by simpa using List.not_of_lt_findIdx hjk⟩
    have hi := idx_at hk hp hall
    have hg : getP l n = some l[k].v := by
      unfold getP
      rw [List.find?_eq_some_iff_getElem.2 ⟨hp, k, hk, rfl, fun j hj => by simpa using hall j (by omega) hj⟩]
      rfl
    have hfin := Lib.hid hg
    have HI := Lib.hid hi
    have hall := Lib.hid hall
    clear hg hi h
    go_enter Try.func19, Try.ntmps19
    go_wp2_with fail
    refine (find_any _ n l B w hv hB).mono ?_
    rintro e w1 ⟨rfl, hb1⟩
    rw [HI.out]
    obtain ⟨b, off, rfl, hbB, hcap, hc0, hc1⟩ := (hv.below (hb1.mono hB)).at hk
    go_wp2
    go_ret2
    refine ⟨?_, hb1⟩
    rw [hfin.out]
    rfl
  · have h' : l.any (hasN n) = false := by simpa using h
    have hi : idx (hasN n) l = -1 := by unfold idx; rw [h']; rfl
    have hg : getP l n = none := by
      unfold getP
      rw [List.find?_eq_none.2 (by simpa [List.any_eq_false] using h')]
      rfl
    have hfin := Lib.hid hg
    have HI := Lib.hid hi
    clear hg hi h h'
    go_enter Try.func19, Try.ntmps19
    go_wp2_with fail
    refine (find_any _ n l B w hv hB).mono ?_
    rintro e w1 ⟨rfl, hb1⟩
    rw [HI.out]
    go_wp2
    go_ret2
    refine ⟨?_, hb1⟩
    rw [hfin.out]
    rfl
end Go.Proofs.Ytjoogocgklhgpaa
