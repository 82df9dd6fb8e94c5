/- The chapter's examples, as every statement of layer 1 asks them first: 'lives' is true. -/
import Derived.Test.YtnnimiemmgakcaaRdp
import Derived.Test.YtnnimiemmgakcaaSum
import Derived.Lib.SlBytesConst
namespace Go.Proofs.Ytnnimiemmgakcaa
open Go.RowKit

theorem uv128 : Lib.uvarint 128 = [128, 1] := by rw [Lib.uvarint_big (by decide), Lib.uvarint_small (by decide)]; rfl
theorem rd130 : rdNum [130, 1, 7] 0 = (130, [7], 0) := by decide
theorem rd128 : rdNum [128, 0] 0 = (0, [128, 0], 4) := by decide
theorem sum19 : sumL [49, 50, 51, 52, 53, 54, 55, 56, 57] = 3421780262 := by decide +kernel
theorem sum0 : sumL [] = 0 := by decide +kernel

/-- the call comes to true; what was there is as it was -/
def Yes (w : World) (e : Ending) (w' : World) : Prop := e = .returned (.bool true) ∧ Below w.heap.size w w'

set_option maxRecDepth 100000 in
set_option maxHeartbeats 1000000 in
theorem lives_any (w : World) : Calls Try.prog 10 #[] w (Yes w) := by
  go_enter Try.func10, Try.ntmps10
  go_wp2_with fail
  refine (new_any _ [130, 1, 7] _ _ (Bs.lit w _ [130, 1, 7] _ 3 rfl (by omega) rfl) (by simp)).mono ?_
  rintro e w1 ⟨g1, b1, rfl, r1, hb1, hg1, hbb1, hlt1⟩
  have B1 : Below w.heap.size w w1 := ((Below.refl _ w).alloc (Nat.le_refl _) _).trans (hb1.mono (by simp))
  have hlt1' : b1 < w1.heap.size := by simpa using hlt1
  have hgl1 := r1.lt
  clear hb1 hlt1
  go_wp2_with fail
  refine (new_any _ [128, 0] _ _ (Bs.lit w1 _ [128, 0] _ 2 rfl (by omega) rfl) (by simp)).mono ?_
  rintro e w2 ⟨g2, b2, rfl, r2, hb2, hg2, hbb2, hlt2⟩
  simp only [World.size_alloc] at hg1 hbb1 hg2 hbb2
  have r1 := (r1.all ((Below.refl _ w1).alloc (Nat.le_refl _) _)).all hb2
  have B2 : Below w.heap.size w w2 := (B1.alloc B1.size _).trans (hb2.mono (by have := B1.size; simp; omega))
  clear hb2 hlt2 B1
  go_wp2_with fail
  refine (number_any (.slice none 0 0) [] 0 128 (by unfold U64; omega) w2 (Bs.nil _ _) (by simp)).mono ?_
  rintro e w3 ⟨v3, rfl, o3, hb3⟩
  rw [List.nil_append, uv128] at o3
  have r1 := r1.all hb3
  have r2 := r2.all hb3
  have B3 := B2.trans (hb3.mono B2.size)
  clear hb3 B2
  obtain ⟨c3, ob3, _, _⟩ := o3.bs
  clear o3
  go_wp2_with fail
  refine (bytes_any _ _ [128, 1] [128, 1] _ _ _ (ob3.alloc _) (Bs.lit w3 _ [128, 1] _ 2 rfl (by omega) rfl)).mono ?_
  rintro e w4 ⟨rfl, rfl⟩
  have A3 : Below w3.heap.size w3 (w3.alloc (.cells #[.int .u8 128, .int .u8 1] 5)) := (Below.refl _ w3).alloc (Nat.le_refl _) _
  have r1 := r1.all A3
  have r2 := r2.all A3
  have B4 := B3.trans (A3.mono B3.size)
  clear A3 B3 ob3
  go_wp2_with fail
  refine (num_any g1 b1 [130, 1, 7] 0 _ r1 (by simp)).mono ?_
  rintro e w4 ⟨rfl, r1', hg⟩
  rw [rd130] at r1'
  have r2 := r2.other hg (by omega) (.inl (by omega))
  have B5 := B4.grown hg B4.size (fun k hk => by simp at hk; omega)
  clear hg r1 B4
  go_wp2_with fail
  refine (left_any g1 b1 [7] 0 _ r1').mono ?_
  rintro e w5 ⟨rfl, rfl⟩
  go_wp2_with fail
  refine (num_any g2 b2 [128, 0] 0 _ r2 (by simp)).mono ?_
  rintro e w5 ⟨rfl, r2', hg⟩
  rw [rd128] at r2'
  have B6 := B5.grown hg B5.size (fun k hk => by simp at hk; omega)
  clear hg r1' r2 B5
  go_wp2_with fail
  refine (err_any g2 b2 [128, 0] 4 _ r2').mono ?_
  rintro e w6 ⟨rfl, rfl⟩
  clear r2'
  have hconv := fun (w : World) (C : Array Value) (n c : Nat) => Lib.run_convert_bytes_const (P := Try.prog) w 22 5 C n c Try.underlying22 Try.underlying5
  go_wp2_with fail
  refine (sum_any _ [49, 50, 51, 52, 53, 54, 55, 56, 57] _ _ (Bs.litF w5 _ [49, 50, 51, 52, 53, 54, 55, 56, 57] _ _ 9 rfl (by omega) rfl) (by simp)).mono ?_
  rintro e w6 ⟨rfl, hb6⟩
  rw [sum19]
  have B7 := (B6.alloc B6.size _).trans (hb6.mono (by have := B6.size; simp; omega))
  clear hb6 B6
  go_wp2_with fail
  refine (sum_any (.slice none 0 0) [] 0 _ (Bs.nil _ _) (by simp)).mono ?_
  rintro e w7 ⟨rfl, hb7⟩
  rw [sum0]
  have B8 := B7.trans (hb7.mono B7.size)
  clear hb7 B7
  go_wp2
  go_ret
  exact ⟨rfl, B8⟩
end Go.Proofs.Ytnnimiemmgakcaa
