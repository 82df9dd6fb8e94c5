/- Contracts of package wire's Reader: made, Err, Left, Number, Piece, End, New. -/
import Derived.Test.YtnnimiemmgakcaaRead
import Derived.LaidEqlPtr
import Derived.Lib.SlicesMore
namespace Go.Proofs.Ytnnimiemmgakcaa
open Go.RowKit

/-- a reader that New made, in block g: l is not gone over; its error is n -/
def Rdr (w : World) (g b : Nat) (l : List UInt8) (n : Nat) : Prop :=
  ∃ v, Bk w g 37 #[.pointer (some ⟨g, 0, none⟩), v, .int .i64 (n : Int)] ∧ Bs w b v l ∧ b ≠ g

theorem Rdr.all {w w' : World} {g b : Nat} {l : List UInt8} {n : Nat} (h : Rdr w g b l n) (hb : Below w.heap.size w w') : Rdr w' g b l n := by
  obtain ⟨v, h1, h2, h3⟩ := h
  exact ⟨v, h1.all hb, h2.all hb, h3⟩
theorem Rdr.other {w w' : World} {g b k : Nat} {l : List UInt8} {n : Nat} (h : Rdr w g b l n) (hg : w.grownBy w' (some k)) (h1 : g ≠ k) (h2 : b ≠ k ∨ l = []) : Rdr w' g b l n := by
  obtain ⟨v, h3, h4, h5⟩ := h
  exact ⟨v, h3.grown hg (by simpa using h1), h4.grown hg (h2.imp (by simp) id), h5⟩
theorem Rdr.lt {w : World} {g b : Nat} {l : List UInt8} {n : Nat} (h : Rdr w g b l n) : g < w.heap.size := by
  obtain ⟨v, h1, _⟩ := h
  exact h1.lt

set_option maxRecDepth 100000 in
set_option maxHeartbeats 400000 in
theorem clone_any (v : Value) (l : List UInt8) (b : Nat) (w : World) (hv : Bs w b v l) (hl : l.length ≤ 1000000000) :
    Calls Try.prog 29 #[v] w (Makes 5 w l) := by
  have hv' := hv
  obtain ⟨A, cap, rfl, hc, hm, hcells⟩ := hv
  have hn := fun w => Lib.run_eql_slice_nil (P := Try.prog) w 22 5 A l.length cap 0 0 Try.underlying22
  go_enter Try.func29, Try.ntmps29
  have hown : Ow (w.alloc (.cells #[] 5)) 5 w.heap.size (.slice (some ⟨w.heap.size, 0, none⟩) 0 0) [] := Ow.lit w _ _ [] #[] 0 (Nat.le_refl _) rfl (by omega) rfl
  cases A with
  | none =>
    have : l = [] := by
      rcases hcells with h | ⟨_, h, _⟩
      · exact h
      · cases h
    subst this
    simp only [List.length_nil] at hn ⊢
    clear hown
    go_wp2
    go_ret
    exact ⟨_, rfl, Ow.nil _ _ _, Below.refl _ _⟩
  | some ad =>
    go_wp2_with (at_builtin; refine wpList_app _ rfl _ _ _ _ rfl Try.underlying22 infoB w.heap.size rfl rfl hown (hv'.alloc _) ?_ ?_ ?_)
    · simp; omega
    · simp
    intro v3 w3 ho3 hg3 _
    have hb3 : Below w.heap.size w w3 := ((Below.refl _ w).alloc (Nat.le_refl _) _).grown hg3 (by simp) (fun k hk => (hown.lt k hk).1)
    clear hg3 hown hv' hcells hn
    go_wp2
    go_ret
    exact ⟨_, rfl, ho3, hb3⟩

theorem infoR : ∃ j, Try.prog.info? 37 = some j := by
  have h : (Try.prog.info? 37).isSome = true := by kernel_rfl
  exact Option.isSome_iff_exists.1 h

set_option maxRecDepth 100000 in
set_option maxHeartbeats 400000 in
theorem made_any (g b : Nat) (l : List UInt8) (n : Nat) (w : World) (h : Rdr w g b l n) :
    Calls Try.prog 28 #[.pointer (some ⟨g, 0, none⟩)] w fun e w' => e = .returned (.bool true) ∧ w = w' := by
  obtain ⟨v, h1, h2, h3⟩ := h
  obtain ⟨j, hj⟩ := infoR
  have hc := h1.cell 0
  simp at hc
  have he := run_eql_ptr_same (P := Try.prog) w ⟨g, 0, none⟩ Try.underlying35 hj
  go_enter Try.func28, Try.ntmps28
  go_wp2
  go_ret
  exact ⟨rfl, rfl⟩

set_option maxRecDepth 100000 in
set_option maxHeartbeats 400000 in
theorem err_any (g b : Nat) (l : List UInt8) (n : Nat) (w : World) (h : Rdr w g b l n) :
    Calls Try.prog 22 #[.pointer (some ⟨g, 0, none⟩)] w fun e w' => e = .returned (.int .i64 (n : Int)) ∧ w = w' := by
  have hh := h
  obtain ⟨v, h1, h2, h3⟩ := h
  have hc := h1.cell 2
  simp at hc
  go_enter Try.func22, Try.ntmps22
  go_wp2_with fail
  refine (made_any g b l n w hh).mono ?_
  rintro e w' ⟨rfl, rfl⟩
  go_wp2
  go_ret
  exact ⟨rfl, rfl⟩

set_option maxRecDepth 100000 in
set_option maxHeartbeats 400000 in
theorem left_any (g b : Nat) (l : List UInt8) (n : Nat) (w : World) (h : Rdr w g b l n) :
    Calls Try.prog 21 #[.pointer (some ⟨g, 0, none⟩)] w fun e w' => e = .returned (.int .i64 (l.length : Int)) ∧ w = w' := by
  have hh := h
  obtain ⟨v, h1, h2, h3⟩ := h
  obtain ⟨A, cap, rfl, hc, hm, hcells⟩ := h2
  have hc := h1.cell 1
  simp at hc
  go_enter Try.func21, Try.ntmps21
  go_wp2_with fail
  refine (made_any g b l n w hh).mono ?_
  rintro e w' ⟨rfl, rfl⟩
  go_wp2
  go_ret
  exact ⟨rfl, rfl⟩

set_option maxRecDepth 100000 in
set_option maxHeartbeats 400000 in
theorem end_any (g b : Nat) (l : List UInt8) (n : Nat) (w : World) (h : Rdr w g b l n) :
    Calls Try.prog 23 #[.pointer (some ⟨g, 0, none⟩)] w fun e w' => e = .returned (.int .i64 (if n ≠ 0 then (n : Int) else if 0 < l.length then 4 else 0)) ∧ w = w' := by
  have hh := h
  obtain ⟨v, h1, h2, h3⟩ := h
  obtain ⟨A, cap, rfl, hc, hm, hcells⟩ := h2
  have hc := h1.cell 1
  simp at hc
  go_enter Try.func23, Try.ntmps23
  go_wp2_with fail
  refine (err_any g b l n w hh).mono ?_
  rintro e w' ⟨rfl, rfl⟩
  by_cases h0 : n = 0
  · subst h0
    by_cases hl : 0 < l.length
    · go_wp2
      go_ret
      exact ⟨by simp, rfl⟩
    · go_wp2
      go_ret
      exact ⟨by simp, rfl⟩
  · have hb : ((n : Int) != 0) = true := by rw [bne_iff_ne]; omega
    go_wp2
    go_ret
    exact ⟨by simp, rfl⟩

/-- what New answers: a new reader of l -/
def NewR (w : World) (l : List UInt8) (e : Ending) (w' : World) : Prop := ∃ g b, e = .returned (.pointer (some ⟨g, 0, none⟩)) ∧ Rdr w' g b l 0 ∧ Below w.heap.size w w' ∧ w.heap.size ≤ g ∧ w.heap.size ≤ b ∧ (b < w'.heap.size ∨ l = [])

set_option maxRecDepth 100000 in
set_option maxHeartbeats 400000 in
theorem new_any (v : Value) (l : List UInt8) (b : Nat) (w : World) (hv : Bs w b v l) (hl : l.length ≤ 1000000000) :
    Calls Try.prog 24 #[v] w (NewR w l) := by
  go_enter Try.func24, Try.ntmps24
  go_wp2_with fail
  refine (clone_any v l b w hv hl).mono ?_
  rintro e w1 ⟨v1, rfl, ho, hb⟩
  obtain ⟨b1, hb1, hge, hblk⟩ := ho.bs
  have hne : l = [] ∨ b1 < w1.heap.size := by
    obtain ⟨A, cap, _, _, _, h⟩ := hb1
    rcases h with h | ⟨_, _, h, _⟩
    · exact .inl h
    · exact .inr h
  obtain ⟨A, cap, rfl⟩ := ho.form
  have hsz := hb.size
  clear ho
  go_wp2
  go_ret
  have hbk : Bk (w1.alloc (.cells #[.pointer (some ⟨w1.heap.size, 0, none⟩), .slice A l.length cap, .int .i64 0] 37)) w1.heap.size 37 #[.pointer (some ⟨w1.heap.size, 0, none⟩), .slice A l.length cap, .int .i64 0] := Bk.new _ _ _
  rcases hne with rfl | hlt
  · exact ⟨_, w1.heap.size + 1, rfl, ⟨_, hbk, ((hb1.alloc _).grown (row := none) (World.grownBy.refl _ _) (.inr rfl)).empty _, by omega⟩, hb.alloc hsz _, hsz, by omega, .inr rfl⟩
  · exact ⟨_, b1, rfl, ⟨_, hbk, hb1.alloc _, by omega⟩, hb.alloc hsz _, hsz, hge, .inl (by simp; omega)⟩
end Go.Proofs.Ytnnimiemmgakcaa
