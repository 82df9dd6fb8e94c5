/- attr: names (the program's own). -/
import Derived.Test.YtfbcafapnagjfaaDoorProg
import Derived.Test.YtfbcafapnagjfaaDoorWords
import Derived.Test.YtfbcafapnagjfaaDoorRd
import Derived.Laws.IdiomStrings
import Derived.Lib.Hide
namespace Go.Proofs.YtfbcafapnagjfaaDoor
open Go.RowKit

def inC (lo hi c : UInt8) : Bool := decide (lo ≤ c) && decide (c ≤ hi)
def inB (lo hi : UInt8) (l : List UInt8) : Bool := l.all (inC lo hi)
def nameB (s : ByteArray) : Bool := decide (1 ≤ s.size) && decide (s.size ≤ 16) && inB 97 122 s.data.toList

theorem ba_len (s : ByteArray) : s.data.toList.length = s.size := by rw [Array.length_toList]; rfl
theorem ba_getD (s : ByteArray) (k : Nat) (hk : k < s.data.toList.length) : s.data.toList.getD k 0 = s.data.toList[k] := by unfold List.getD; rw [List.getElem?_eq_getElem hk]; rfl
theorem inB_yes {lo hi : UInt8} {s : ByteArray} (h : ∀ j, j < s.size → inC lo hi (s.data.toList.getD j 0) = true) : inB lo hi s.data.toList = true := by
  unfold inB
  rw [List.all_eq_true]
  intro x hx
  obtain ⟨j, hj, rfl⟩ := List.mem_iff_getElem.1 hx
  have := h j (by rw [← ba_len]; exact hj)
  rwa [ba_getD s j hj] at this
theorem inB_no {lo hi : UInt8} {s : ByteArray} (k : Nat) (hk : k < s.size) (h : inC lo hi (s.data.toList.getD k 0) = false) : inB lo hi s.data.toList = false := by
  unfold inB
  rw [← Bool.not_eq_true, List.all_eq_true]
  intro hall
  have hk' : k < s.data.toList.length := by rw [ba_len]; exact hk
  rw [ba_getD s k hk', hall _ (List.getElem_mem hk')] at h
  cases h

theorem ret_bool {a b : Bool} (h : a = b) : Ending.returned (.bool a) = .returned (.bool b) := by rw [h]
theorem ret_int {k : IntKind} {a b : Int} (h : a = b) : Ending.returned (.int k a) = .returned (.int k b) := by rw [h]

/-- []byte(s): new bytes -/
theorem bytes_of (P : Program) (w : World) (src dst e : TypeId) (s : ByteArray) (hs : P.underlying src = some .string) (hd : P.underlying dst = some (.slice e)) (he : P.underlying e = some (.int .u8)) :
    ∃ c w1, (convert src dst (.string s)).run P w = .ok (.slice (some ⟨w.heap.size, 0, none⟩) s.size c) w1 ∧ Below w.heap.size w w1 ∧
      Hid (∀ j, j < s.size → w1.cell? ⟨w.heap.size, j, none⟩ = some (.int .u8 ((s.data.toList.getD j 0).toNat : Int))) := by
  refine ⟨_, _, run_bytes_of_string w src dst e s hs hd he, ((Below.refl _ _).drew).alloc (Nat.le_refl _) _, fun j hj => ?_⟩
  rw [cell_of_row _ w.heap.size _ _ e _ (heap_alloc_new w.drew _)]
  have hj' : j < s.data.size := hj
  have hj2 : s.data[j]? = some s.data[j] := Array.getElem?_eq_getElem hj'
  simp only [bytesRow, Array.getElem?_append, Array.size_map]
  rw [if_pos hj']
  simp [List.getD, hj2]

set_option maxRecDepth 100000 in
theorem within_any (s : ByteArray) (lo hi : UInt8) (w : World) (hs : s.size ≤ 1000000000000) :
    Calls Tryd.prog 42 #[.string s, .int .u8 (lo.toNat : Int), .int .u8 (hi.toNat : Int)] w fun e w' => e = .returned (.bool (inB lo hi s.data.toList)) ∧ Below w.heap.size w w' := by
  obtain ⟨c, w1, hrun, B1, HC⟩ := bytes_of Tryd.prog w 9 64 5 s Tryd.underlying9 Tryd.underlying64 Tryd.underlying5
  go_enter Tryd.func42, Tryd.ntmps42
  go_wp2
  go_loop [12] (fun i => ∃ k : Nat, k ≤ s.size ∧ i = .int .i64 k ∧ Hid (∀ j, j < k → inC lo hi (s.data.toList.getD j 0) = true)) (fun i => s.size - (intOf i).toNat)
  case atStart => exact ⟨0, Nat.zero_le _, rfl, fun j hj => by omega⟩
  case round =>
    obtain ⟨k, hk, rfl, hall⟩ := hrel
    by_cases hlt : k < s.size
    · have hc := HC.out k hlt
      obtain ⟨c, hcd⟩ : ∃ c : UInt8, Hid (c = s.data.toList.getD k 0) := ⟨_, rfl⟩
      rw [← hcd.out] at hc
      by_cases hin : lo.toNat ≤ c.toNat ∧ c.toNat ≤ hi.toNat
      · have hall' : Hid (∀ j, j < k + 1 → inC lo hi (s.data.toList.getD j 0) = true) := by
          show ∀ j, _
          intro j hj
          by_cases e : j = k
          · subst e; rw [← hcd.out]; simp [inC, UInt8.le_iff_toNat_le, hin]
          · exact hall.out j (by omega)
        have h1 : ¬ c.toNat < lo.toNat := by omega
        have h2 : ¬ hi.toNat < c.toNat := by omega
        clear hin
        go_wp2
        go_round
        case rel => exact ⟨k + 1, by omega, by go_num, hall'⟩
        case measure => simp [intOf]; omega
      · have hno : Hid (inB lo hi s.data.toList = false) := by
          show _ = _
          refine inB_no k hlt ?_
          rw [← hcd.out]
          simp [inC, UInt8.le_iff_toNat_le]
          omega
        by_cases h1 : c.toNat < lo.toNat
        · clear hin
          go_wp2
          go_ret
          exact ⟨ret_bool hno.out.symm, B1⟩
        · have h2 : hi.toNat < c.toNat := by omega
          clear hin
          go_wp2
          go_ret
          exact ⟨ret_bool hno.out.symm, B1⟩
    · have hyes : Hid (inB lo hi s.data.toList = true) := inB_yes fun j hj => hall.out j (by omega)
      go_wp2
      go_ret
      exact ⟨ret_bool hyes.out.symm, B1⟩

theorem empty_iff (s : ByteArray) : s.toList = [] ↔ s.size = 0 := by
  rw [ByteArray.toList_eq, ← ba_len, List.length_eq_zero_iff]

set_option maxRecDepth 100000 in
theorem name_any (s : ByteArray) (w : World) :
    Calls Tryd.prog 29 #[.string s] w fun e w' => e = .returned (.bool (nameB s)) ∧ Below w.heap.size w w' := by
  by_cases h1 : s.size = 0
  · have hfin : Hid (nameB s = false) := by show _ = _; unfold nameB; simp [h1]
    have h2 : s.toList = [] := (empty_iff s).2 h1
    have h3 : s.toList.isEmpty = true := by rw [h2]; rfl
    clear h1
    go_enter Tryd.func29, Tryd.ntmps29
    go_wp2
    go_ret
    exact ⟨ret_bool hfin.out.symm, Below.refl _ _⟩
  have h3 : ¬ s.toList = [] := fun h => h1 ((empty_iff s).1 h)
  have h4 : s.toList.isEmpty = false := by rw [List.isEmpty_eq_false_iff]; exact h3
  by_cases h2 : s.size ≤ 16
  · have hfin : Hid (nameB s = inB 97 122 s.data.toList) := by show _ = _; unfold nameB; simp [show 1 ≤ s.size by omega, h2]
    go_enter Tryd.func29, Tryd.ntmps29
    go_wp2_with fail
    refine (within_any s 97 122 w (by omega)).mono ?_
    rintro e w1 ⟨rfl, B1⟩
    go_wp2
    go_ret
    exact ⟨ret_bool hfin.out.symm, B1⟩
  · have hfin : Hid (nameB s = false) := by show _ = _; unfold nameB; simp [h2]
    go_enter Tryd.func29, Tryd.ntmps29
    go_wp2
    go_ret
    exact ⟨ret_bool hfin.out.symm, Below.refl _ _⟩
end Go.Proofs.YtfbcafapnagjfaaDoor
