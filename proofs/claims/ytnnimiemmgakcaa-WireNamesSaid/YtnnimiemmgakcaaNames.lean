/- WireNames: the walk. -/
import Derived.Test.YtnnimiemmgakcaaLives
namespace Go.Proofs.Ytnnimiemmgakcaa
open Go.RowKit

theorem uvMax : Lib.uvarint 18446744073709551615 = [255, 255, 255, 255, 255, 255, 255, 255, 255, 1] := by
  repeat (first | rw [Lib.uvarint_small (by decide)] | rw [Lib.uvarint_big (by decide)])
  decide
theorem szMax : szN 18446744073709551615 = 10 := by unfold szN; rw [uvMax]; rfl
theorem sz0 : szN 0 = 1 := szN_small (by decide)
theorem sz127 : szN 127 = 1 := szN_small (by decide)

/-- make([]byte, n), as bytes -/
theorem made_ow {w : World} {e : TypeId} {base : Nat} {v : Value} {n : Nat} (h : w.ownsRow base e 1 v n (madeCells (Value.int .u8 0).cells (n * 1)).toList) : ∃ l : List UInt8, l.length = n ∧ Ow w e base v l := by
  refine ⟨List.replicate n 0, by simp, ?_⟩
  unfold Ow
  have e1 : cellsB (List.replicate n (0 : UInt8)) = (madeCells (Value.int .u8 0).cells (n * 1)).toList := by
    have : (Value.int .u8 0).cells = #[Value.int .u8 0] := rfl
    rw [this, toList_madeCells_one, Nat.mul_one]
    simp [cellsB]
  rw [e1, List.length_replicate]
  exact h

set_option maxRecDepth 100000 in
set_option maxHeartbeats 1000000 in
theorem wireNames_walk (w : World) : Calls Try.prog 3 #[] w (Yes w) := by
  obtain ⟨i0, hi, hz0, hz1, hz2⟩ := info_parts infoB
  go_enter Try.func3, Try.ntmps3
  go_wp2_with fail
  refine (number_any (.slice none 0 0) [] 0 18446744073709551615 (by unfold U64; omega) w (Bs.nil _ _) (by simp)).mono ?_
  rintro e w1 ⟨v1, rfl, o1, B1⟩
  rw [List.nil_append, uvMax] at o1
  go_wp2_with (at_make; refine wpList_make_full _ rfl _ _ 22 rfl w.heap.size 5 i0 (.int .u8 0) 1 Try.underlying22 hi hz0 hz1 _ _ _ _ 1048577 rfl rfl ?_ ?_ ?_ ?_ ?_ ?_)
  · rfl
  · rfl
  · rw [hz2]; omega
  · unfold maxLen; omega
  · have := B1.size; simp; omega
  intro w2 hown hg2
  obtain ⟨l, hl, o2⟩ := made_ow hown
  obtain ⟨c2, ob2, _, _⟩ := o2.bs
  have hrun := run_str (P := Try.prog) w2 22 9 5 Try.underlying22 Try.underlying5 Try.underlying9 ob2
  have hps : Hid (1048576 < (ByteArray.mk l.toArray).size) := by show 1048576 < l.toArray.size; rw [List.size_toArray]; omega
  clear hown o2 ob2 hl
  go_wp2_with fail
  refine (piece_long _ _ w2 hps.out).mono ?_
  rintro e w3 ⟨rfl, rfl⟩
  have B2 : Below w.heap.size w w2 := (B1.alloc B1.size _).grown hg2 (by have := B1.size; simp; omega) (by simp)
  have o3 : Ow w2 5 w.heap.size v1 [255, 255, 255, 255, 255, 255, 255, 255, 255, 1] := (o1.alloc _).kept hg2 (by cases v1.ownBlock <;> simp)
  clear hg2 o1 B1 hrun hps
  go_wp2_with fail
  refine (lives_any w2).mono ?_
  rintro e w3 ⟨rfl, hb3⟩
  have B3 := B2.trans (hb3.mono B2.size)
  have o4 := o3.all hb3
  clear hb3 o3 B2
  obtain ⟨c4, ⟨A, cap, rfl, hc1, hc2, hcells⟩, _, _⟩ := o4.bs
  rcases hcells with h | ⟨off, rfl, _, hcell⟩
  · cases h
  have hc9 := hcell 9 _ rfl
  have hc0 := hcell 0 _ rfl
  simp only [Nat.add_zero] at hc0
  clear hcell o4 hc2
  simp only [List.length_cons, List.length_nil] at hc1 ⊢
  go_wp2_with fail
  refine (size_any 0 (by unfold U64; omega) w3).mono ?_
  rintro e w4 ⟨rfl, rfl⟩
  rw [sz0]
  go_wp2_with fail
  refine (size_any 127 (by unfold U64; omega) w3).mono ?_
  rintro e w4 ⟨rfl, rfl⟩
  rw [sz127]
  go_wp2_with fail
  refine (size_any 18446744073709551615 (by unfold U64; omega) w3).mono ?_
  rintro e w4 ⟨rfl, rfl⟩
  rw [szMax]
  go_wp2
  go_ret
  exact ⟨rfl, B3⟩
end Go.Proofs.Ytnnimiemmgakcaa
