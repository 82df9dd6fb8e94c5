/- WireMakes: the walk. -/
import Derived.Test.YtnnimiemmgakcaaLives
namespace Go.Proofs.Ytnnimiemmgakcaa
open Go.RowKit

theorem beq_self (l : List UInt8) : (l == l) = true := by simp

set_option maxRecDepth 100000 in
set_option maxHeartbeats 1000000 in
theorem wireMakes_walk (v : Value) (l : List UInt8) (b : Nat) (x : Nat) (p : ByteArray) (w : World) (hv : Bs w b v l) (hx : U64 x) :
    Calls Try.prog 4 #[v, .int .u64 x, .string p] w (Yes w) := by
  obtain ⟨A, cap, hA⟩ : ∃ A cap, v = .slice A l.length cap := by obtain ⟨A, cap, h, _⟩ := hv; exact ⟨A, cap, h⟩
  subst hA
  go_enter Try.func4, Try.ntmps4
  go_wp2_with fail
  refine (lives_any w).mono ?_
  rintro e w1 ⟨rfl, B1⟩
  have hv := hv.all B1
  by_cases h1 : 5000 < l.length
  · go_wp2
    go_ret
    exact ⟨rfl, B1⟩
  by_cases h2 : 5000 < p.size
  · go_wp2
    go_ret
    exact ⟨rfl, B1⟩
  go_wp2_with fail
  refine (own_any _ l b w1 hv (by omega)).mono ?_
  rintro e w2 ⟨v2, rfl, o2, hb⟩
  have hv := hv.all hb
  have B2 := B1.trans (hb.mono B1.size)
  clear hb B1
  obtain ⟨c2, ob2, _, _⟩ := o2.bs
  clear o2
  go_wp2_with fail
  refine (piece_any _ l c2 p w2 ob2 (by omega) (by omega)).mono ?_
  rintro e w3 ⟨v3, rfl, o3, hb⟩
  have hv := hv.all hb
  have B3 := B2.trans (hb.mono B2.size)
  clear hb B2 ob2
  go_wp2_with fail
  refine (own_any _ l b w3 hv (by omega)).mono ?_
  rintro e w4 ⟨v4, rfl, o4, hb⟩
  have hs3 := hb.size
  go_wp2_with fail
  refine (refPiece_any v4 l w3.heap.size p w4 o4 (by omega) (by omega) hs3).mono ?_
  rintro e w5 ⟨v5, rfl, o5, hb'⟩
  have hb := hb.trans hb'
  have hv := hv.all hb
  have o3 := o3.all hb
  have B4 := B3.trans (hb.mono B3.size)
  clear hb hb' o4 hs3 B3
  go_wp2_with fail
  refine (own_any _ l b w5 hv (by omega)).mono ?_
  rintro e w6 ⟨v6, rfl, o6, hb⟩
  have hv := hv.all hb
  have o3 := o3.all hb
  have o5 := o5.all hb
  have B5 := B4.trans (hb.mono B4.size)
  clear hb B4
  obtain ⟨c6, ob6, _, _⟩ := o6.bs
  clear o6
  go_wp2_with fail
  refine (number_any _ l c6 x hx w6 ob6 (by omega)).mono ?_
  rintro e w7 ⟨v7, rfl, o7, hb⟩
  have hv := hv.all hb
  have o3 := o3.all hb
  have o5 := o5.all hb
  have B6 := B5.trans (hb.mono B5.size)
  clear hb B5 ob6
  go_wp2_with fail
  refine (own_any _ l b w7 hv (by omega)).mono ?_
  rintro e w8 ⟨v8, rfl, o8, hb⟩
  have hs7 := hb.size
  go_wp2_with fail
  refine (refNumber_any v8 l w7.heap.size x hx w8 o8 (by omega) hs7).mono ?_
  rintro e w9 ⟨v9, rfl, o9, hb'⟩
  have hb := hb.trans hb'
  have hv := hv.all hb
  have o3 := o3.all hb
  have o5 := o5.all hb
  have o7 := o7.all hb
  have B7 := B6.trans (hb.mono B6.size)
  clear hb hb' o8 hs7 B6
  obtain ⟨c7, ob7, _, _⟩ := o7.bs
  obtain ⟨c9, ob9, _, _⟩ := o9.bs
  go_wp2_with fail
  refine (bytes_any v7 v9 _ _ c7 c9 w9 ob7 ob9).mono ?_
  rintro e w10 ⟨rfl, rfl⟩
  rw [beq_self]
  clear ob7 ob9 o7 o9
  go_wp2_with fail
  refine (size_any x hx w9).mono ?_
  rintro e w10 ⟨rfl, rfl⟩
  go_wp2_with fail
  refine (refSize_any x hx w9).mono ?_
  rintro e w10 ⟨rfl, hb⟩
  have hv := hv.all hb
  have o3 := o3.all hb
  have o5 := o5.all hb
  have B8 := B7.trans (hb.mono B7.size)
  clear hb B7
  obtain ⟨c3, ob3, _, _⟩ := o3.bs
  obtain ⟨c5, ob5, _, _⟩ := o5.bs
  clear o3 o5
  have hself : (((szN x : Nat) : Int) == ((szN x : Nat) : Int)) = true := by simp
  go_wp2_with fail
  refine (bytes_any v3 v5 _ _ c3 c5 w10 ob3 ob5).mono ?_
  rintro e w11 ⟨rfl, rfl⟩
  rw [beq_self]
  clear ob3 ob5
  go_wp2_with fail
  refine (own_any _ l b w10 hv (by omega)).mono ?_
  rintro e w11 ⟨v11, rfl, o11, hb⟩
  have hv := hv.all hb
  have B9 := B8.trans (hb.mono B8.size)
  clear hb B8
  obtain ⟨c11, ob11, _, _⟩ := o11.bs
  clear o11
  go_wp2_with fail
  refine (sum_any v11 l c11 w11 ob11 (by omega)).mono ?_
  rintro e w12 ⟨rfl, hb⟩
  have hv := hv.all hb
  have B10 := B9.trans (hb.mono B9.size)
  clear hb B9 ob11
  go_wp2_with fail
  refine (refSum_any _ l b w12 hv (by omega)).mono ?_
  rintro e w13 ⟨rfl, rfl⟩
  clear hv
  go_wp2
  go_ret
  exact ⟨rfl, B10⟩
end Go.Proofs.Ytnnimiemmgakcaa
