/- Places through maps: P10.1 walked. -/
import Derived.Test.YtiilbgejdpnfpaaMd1
namespace Go.Proofs.Ytiilbgejdpnfpaa
open Go.RowKit Go.Mps

theorem eqMv_run (m : Mv) (w : World) : (Op.equalIn 10000 27 (.agg #[.int .i64 m.p, .bool m.ahead, .bool m.behind, .bool m.across, .bool m.lost]) (.agg #[.int .i64 m.p, .bool m.ahead, .bool m.behind, .bool m.across, .bool m.lost])).run Try.prog w = .ok true w := by
  have u3 := Try.underlying3
  have a3 := Try.isAgg3
  have z3 := Try.sizeOf3
  have u4 := Try.underlying4
  have a4 := Try.isAgg4
  have z4 := Try.sizeOf4
  have hS : Try.prog.underlying 27 = some (.struct (Try.prog.fieldsOf 27)) := by kernel_rfl
  have hp : Try.prog.stoodInHeld 27 = false := by kernel_rfl
  rw [show (10000 : Nat) = 9999 + 1 from rfl, run_equalIn_agg w 9999 27 _ _ hS hp]
  simp only [Program.fieldsOf, Try.underlying27]
  go_simp
theorem sameMv_run (m : Mv) (w : World) : (binOp .eql 27 (mvV m) (mvV m)).run Try.prog w = .ok (.bool true) w := by
  unfold mvV; rw [run_eql_struct, eqMv_run]; rfl

theorem guardMv_run (x y : Operand) (m : Mv) (w : World) : (eqGuard .eql 27 x y (mvV m) (mvV m)).run Try.prog w = .ok () w := run_eqGuard_agg w .eql 27 x y _ _ (by kernel_rfl)

set_option maxRecDepth 100000 in
set_option maxHeartbeats 2000000 in
theorem mapsCalls_walk (v : Value) (l : List Rg) (w : World) (hv : Rgs w w.heap.size v l) (p lean tq : Int)
    (hlive : Calls Try.prog 9 #[] w fun e w' => e = .returned (.bool true) ∧ Below w.heap.size w w') :
    Calls Try.prog 4 #[v, .int .i64 p, .int .i64 lean, .int .i64 tq] w fun e w' => e = .returned (.bool true) ∧ Below w.heap.size w w' := by
  obtain ⟨A, cap, rfl⟩ := hv.form
  have hm := hv.max
  unfold maxLen at hm
  have HV := Lib.hid (fun w' (h : Below w.heap.size w w') => hv.below h)
  clear hv
  obtain ⟨B, hB⟩ : ∃ B, Hid (B = w.heap.size) := ⟨_, Lib.hid rfl⟩
  have hgd := fun x y m w => guardMv_run x y m w
  have hss := fun m w => sameMv_run m w
  have C1 := Lib.hid (fun w' (h : Below w.heap.size w w') => mdCheck_any _ l _ w' (HV.out w' h) h.size)
  have C2 := Lib.hid (fun w' (h : Below w.heap.size w w') => refMpCheck_any _ l _ w' (HV.out w' h) h.size)
  have C3 := Lib.hid (fun w' (h : Below w.heap.size w w') => mdGo_any _ l _ w' (HV.out w' h) h.size p lean)
  have C4 := Lib.hid (fun w' (h : Below w.heap.size w w') => refMpGo_any _ l _ w' (HV.out w' h) h.size p lean)
  have C5 := Lib.hid (fun w' (h : Below w.heap.size w w') => mdTurn_any _ l _ w' (HV.out w' h) h.size)
  have C6 := Lib.hid (fun w' (h : Below w.heap.size w w') => refMpTurn_any _ l _ w' (HV.out w' h) h.size)
  have C7 := Lib.hid (fun w' (h : Below w.heap.size w w') => mdDelta_any _ l _ w' (HV.out w' h) h.size)
  have C8 := Lib.hid (fun w' (h : Below w.heap.size w w') => refMpDelta_any _ l _ w' (HV.out w' h) h.size)
  have C9 := Lib.hid (fun w' (h : Below w.heap.size w w') => mdTouches_any _ l _ w' (HV.out w' h) h.size p tq)
  have C10 := Lib.hid (fun w' (h : Below w.heap.size w w') => refMpTouches_any _ l _ w' (HV.out w' h) h.size p tq)
  obtain ⟨c, hc⟩ : ∃ c, Hid (c = checkM l) := ⟨_, Lib.hid rfl⟩
  obtain ⟨g, hg⟩ : ∃ g, Hid (g = goM l p lean) := ⟨_, Lib.hid rfl⟩
  obtain ⟨t, ht⟩ : ∃ t, Hid (t = turnM l) := ⟨_, Lib.hid rfl⟩
  obtain ⟨d, hd⟩ : ∃ d, Hid (d = deltaM l) := ⟨_, Lib.hid rfl⟩
  obtain ⟨y, hy⟩ : ∃ y, Hid (y = touchM l p tq) := ⟨_, Lib.hid rfl⟩
  rw [← hc.out] at C1 C2
  rw [← hg.out] at C3 C4
  rw [← ht.out] at C5 C6
  rw [← hd.out] at C7 C8
  rw [← hy.out] at C9 C10
  clear HV hc hg ht hd hy
  by_cases h80 : 80 < l.length
  · have h80I : (80 : Int) < (l.length : Int) := by omega
    go_enter Try.func4, Try.ntmps4
    go_wp2_with fail
    refine hlive.mono ?_
    rintro e w1 ⟨rfl, b1⟩
    go_wp2
    go_ret
    exact ⟨rfl, b1⟩
  · have h80I : (l.length : Int) ≤ 80 := by omega
    go_enter Try.func4, Try.ntmps4
    go_wp2_with fail
    refine hlive.mono ?_
    rintro e w1 ⟨rfl, b1⟩
    have D1 := Lib.hid (C1.out w1 b1)
    go_wp2_with fail
    refine D1.out.mono ?_
    rintro e w2 ⟨rfl, b⟩
    have b2 := b1.trans (b.mono b1.size)
    have D2 := Lib.hid (C2.out w2 b2)
    clear b D1 C1 C2 b1
    go_wp2_with fail
    refine D2.out.mono ?_
    rintro e w3 ⟨rfl, b⟩
    have b3 := b2.trans (b.mono b2.size)
    have D3 := Lib.hid (C3.out w3 b3)
    clear b D2 C3 b2
    go_wp2_with fail
    refine D3.out.mono ?_
    rintro e w4 ⟨rfl, b⟩
    have b4 := b3.trans (b.mono b3.size)
    have D4 := Lib.hid (C4.out w4 b4)
    clear b D3 C4 b3
    go_wp2_with fail
    refine D4.out.mono ?_
    rintro e w5 ⟨rfl, b⟩
    have b5 := b4.trans (b.mono b4.size)
    have D5 := Lib.hid (C5.out w5 b5)
    clear b D4 C5 b4
    go_wp2_with fail
    refine D5.out.mono ?_
    rintro e w6 ⟨v6, rfl, o6, b⟩
    have b6 := b5.trans (b.mono b5.size)
    have D6 := Lib.hid (C6.out w6 b6)
    have R6 : Hid (Rgs w6 w6.heap.size v6 t) := Rd.own o6
    clear b D5 C6 b5 o6
    obtain ⟨A6, c6, rfl⟩ := R6.out.form
    go_wp2_with fail
    refine D6.out.mono ?_
    rintro e w7 ⟨v7, rfl, o7, b⟩
    have b7 := b6.trans (b.mono b6.size)
    have R7 : Hid (Rgs w7 w7.heap.size v7 t) := Rd.own o7
    obtain ⟨A7, c7, rfl⟩ := R7.out.form
    have D7 := Lib.hid (kitMap_any _ _ t t _ w7 ((R6.out.below b).mono b.size) R7.out (Nat.le_refl _))
    rw [decide_eq_true rfl] at D7
    clear b D6 b6 o7 R6 R7
    go_wp2_with fail
    refine D7.out.mono ?_
    rintro e w8 ⟨rfl, b⟩
    have b8 := b7.trans (b.mono b7.size)
    have D8 := Lib.hid (C7.out w8 b8)
    clear b D7 C7 b7
    go_wp2_with fail
    refine D8.out.mono ?_
    rintro e w9 ⟨rfl, b⟩
    have b9 := b8.trans (b.mono b8.size)
    have D9 := Lib.hid (C8.out w9 b9)
    clear b D8 C8 b8
    go_wp2_with fail
    refine D9.out.mono ?_
    rintro e w10 ⟨rfl, b⟩
    have b10 := b9.trans (b.mono b9.size)
    have D10 := Lib.hid (C9.out w10 b10)
    clear b D9 C9 b9
    go_wp2_with fail
    refine D10.out.mono ?_
    rintro e w11 ⟨rfl, b⟩
    have b11 := b10.trans (b.mono b10.size)
    have D11 := Lib.hid (C10.out w11 b11)
    clear b D10 C10 b10
    go_wp2_with fail
    refine D11.out.mono ?_
    rintro e w12 ⟨rfl, b⟩
    have b12 := b11.trans (b.mono b11.size)
    clear b D11 b11
    go_wp2
    go_ret
    exact ⟨by first | rfl | simp, b12⟩
end Go.Proofs.Ytiilbgejdpnfpaa
