/- Places through maps: P10.3, turned round and there and back, walked. -/
import Derived.Test.YtiilbgejdpnfpaaMd2
namespace Go.Proofs.Ytiilbgejdpnfpaa
open Go.RowKit Go.Mps

theorem field0_run (a : Int) (b c d e : Bool) (w : World) : (Instr.field 27 (.agg #[.int .i64 a, .bool b, .bool c, .bool d, .bool e]) 0).run Try.prog w = .ok (.int .i64 a) w := by kernel_rfl
theorem ret_is {x : Bool} (h : x = true) : Ending.returned (.bool x) = .returned (.bool true) := by rw [h]
theorem oneSlice (A : Option Addr) (n c : Nat) : (Value.slice A n c).oneCell' = true := rfl

set_option maxRecDepth 100000 in
set_option maxHeartbeats 8000000 in
theorem mapsTurned_walk (v : Value) (l : List Rg) (w : World) (hv : Rgs w w.heap.size v l) (p lean : Int)
    (hlive : Calls Try.prog 9 #[] w fun e w' => e = .returned (.bool true) ∧ Below w.heap.size w w') :
    Calls Try.prog 6 #[v, .int .i64 p, .int .i64 lean] w fun e w' => e = .returned (.bool true) ∧ Below w.heap.size w w' := by
  obtain ⟨A, cap, rfl⟩ := hv.form
  have hm := hv.max
  unfold maxLen at hm
  have HV := Lib.hid (fun w' (h : Below w.heap.size w w') => hv.below h)
  clear hv
  obtain ⟨t, ht⟩ : ∃ t, Hid (t = turnM l) := ⟨_, Lib.hid rfl⟩
  obtain ⟨c, hc⟩ : ∃ c, Hid (c = checkM l) := ⟨_, Lib.hid rfl⟩
  obtain ⟨c2, hc2⟩ : ∃ c, Hid (c = checkM t) := ⟨_, Lib.hid rfl⟩
  obtain ⟨x, hx⟩ : ∃ x, Hid (x = goM l p lean) := ⟨_, Lib.hid rfl⟩
  obtain ⟨y, hy⟩ : ∃ y, Hid (y = throughM [l, t] [⟨0, 1⟩] p lean) := ⟨_, Lib.hid rfl⟩
  obtain ⟨d1, hd1⟩ : ∃ d, Hid (d = deltaM l) := ⟨_, Lib.hid rfl⟩
  obtain ⟨d2, hd2⟩ : ∃ d, Hid (d = deltaM t) := ⟨_, Lib.hid rfl⟩
  obtain ⟨b, hb⟩ : ∃ b, Hid (b = touchM l p p) := ⟨_, Lib.hid rfl⟩
  obtain ⟨z, hz⟩ : ∃ z, Hid (z = goM t x.p lean) := ⟨_, Lib.hid rfl⟩
  have HM : Hid (c = 0 → c2 = 0 → 0 ≤ p → p ≤ 524288 → decide (turnM t = l) = true ∧ d1 + d2 = 0 ∧ 0 ≤ x.p ∧ y.p = p ∧ y.lost = false ∧ y.across = false ∧ (x.p ≤ 1048576 → b = false → z.p = p)) := fun h1 h2 h3 h4 => by
    have e1 : checkM l = 0 := hc.out.symm.trans h1
    have e2 : checkM (turnM l) = 0 := by rw [← ht.out]; exact hc2.out.symm.trans h2
    obtain ⟨q1, q2, q3, q4, q5⟩ := there_back (lean := lean) e1 e2 h3 h4
    refine ⟨by rw [ht.out, turn_back e1 e2, decide_eq_true rfl], by rw [hd1.out, hd2.out, ht.out]; exact delta_turn e1 e2, by rw [hx.out]; exact q1, by rw [hy.out, ht.out]; exact q2, by rw [hy.out, ht.out]; exact q3, by rw [hy.out, ht.out]; exact q4, ?_⟩
    intro h5 h6
    rw [hz.out, ht.out, hx.out]
    exact q5 (by rw [← hx.out]; exact h5) (hb.out.symm.trans h6)
  have HD : Hid (c = 0 → -67108864 ≤ d1 ∧ d1 ≤ 67108864) := fun h1 => by
    have hcz := checkM_zero.1 (hc.out.symm.trans h1)
    have := sum_bound l (fun r hr => okR_of_mem hcz.2 r hr)
    rw [hd1.out]; unfold deltaM; rw [if_neg (by rw [← hc.out]; omega)]
    have := hcz.1
    omega
  have C1 := Lib.hid (fun w' (h : Below w.heap.size w w') => mdTurn_any _ l _ w' (HV.out w' h) h.size)
  have C2 := Lib.hid (fun w' (h : Below w.heap.size w w') => mdCheck_any _ l _ w' (HV.out w' h) h.size)
  have C4 := Lib.hid (fun w' (h : Below w.heap.size w w') => mdGo_any _ l _ w' (HV.out w' h) h.size p lean)
  have C7 := Lib.hid (fun w' (h : Below w.heap.size w w') => mdDelta_any _ l _ w' (HV.out w' h) h.size)
  have C9 := Lib.hid (fun w' (h : Below w.heap.size w w') => mdTouches_any _ l _ w' (HV.out w' h) h.size p p)
  rw [← ht.out] at C1
  rw [← hc.out] at C2
  rw [← hx.out] at C4
  rw [← hd1.out] at C7
  rw [← hb.out] at C9
  go_enter Try.func6, Try.ntmps6
  go_wp2_with fail
  refine hlive.mono ?_
  rintro e w1 ⟨rfl, b1⟩
  have D1 := Lib.hid (C1.out w1 b1)
  have B1 := Lib.hid b1
  clear b1 C1 hlive
  go_wp2_with fail
  refine D1.out.mono ?_
  rintro e w2 ⟨v2, rfl, o2, b2⟩
  have B2 := Lib.hid (B1.out.trans (b2.mono B1.out.size))
  have R2 : Hid (Rgs w2 w2.heap.size v2 t) := Rd.own o2
  obtain ⟨A2, cap2, rfl⟩ := R2.out.form
  have HT := Lib.hid (fun w' (h : Below w2.heap.size w2 w') => R2.out.below h)
  clear D1 b2 o2 B1
  have K3 := Lib.hid (fun w' (h : Below w2.heap.size w2 w') => mdCheck_any _ t _ w' (HT.out w' h) h.size)
  have K5 := Lib.hid (fun w' (h : Below w2.heap.size w2 w') => mdTurn_any _ t _ w' (HT.out w' h) h.size)
  have K8 := Lib.hid (fun w' (h : Below w2.heap.size w2 w') => mdDelta_any _ t _ w' (HT.out w' h) h.size)
  have K10 := Lib.hid (fun w' (h : Below w2.heap.size w2 w') => mdGo_any _ t _ w' (HT.out w' h) h.size x.p lean)
  rw [← hc2.out] at K3
  rw [← hd2.out] at K8
  rw [← hz.out] at K10
  have HY := Lib.hid hy.out
  clear ht hc hc2 hx hd1 hd2 hb hz hy
  by_cases h80 : 80 < l.length
  · have h1 : (80 : Int) < (l.length : Int) := by omega
    clear HM HD
    go_wp2
    go_ret
    exact ⟨rfl, B2.out⟩
  · have h1 : (l.length : Int) ≤ 80 := by omega
    have D2 := Lib.hid (C2.out w2 B2.out)
    clear C2
    go_wp2_with fail
    refine D2.out.mono ?_
    rintro e w3 ⟨rfl, b3⟩
    have S3 := Lib.hid b3
    have B3 := Lib.hid (B2.out.trans (b3.mono B2.out.size))
    clear D2 b3
    by_cases c0 : c = 0
    · subst c0
      have D3 := Lib.hid (K3.out w3 S3.out)
      clear K3
      go_wp2_with fail
      refine D3.out.mono ?_
      rintro e w4 ⟨rfl, b4⟩
      have S4 := Lib.hid (S3.out.trans (b4.mono S3.out.size))
      have B4 := Lib.hid (B2.out.trans (S4.out.mono B2.out.size))
      clear D3 b4 S3 B3
      by_cases c20 : c2 = 0
      · subst c20
        by_cases p0 : p < 0
        · clear HM HD
          go_wp2
          go_ret
          exact ⟨rfl, B4.out⟩
        · have p0' : decide (p < 0) = false := decide_eq_false p0
          by_cases p1 : 524288 < p
          · clear HM HD p0
            go_wp2
            go_ret
            exact ⟨rfl, B4.out⟩
          · have p1' : decide (524288 < p) = false := decide_eq_false p1
            obtain ⟨m1, m2, m3, m4, m5, m6, m7⟩ := HM.out (by trivial) (by trivial) (by omega) (by omega)
            have hd := HD.out (by trivial)
            have hsum : IntKind.i64.wrap (d1 + d2) = 0 := by rw [m2]; rfl
            have hsum : IntKind.i64.wrap (d1 + d2) = 0 := hsum
            have D4 := Lib.hid (C4.out w4 B4.out)
            clear HM HD C4 p0 p1 hd m2
            obtain ⟨xp, xa, xb, xc, xd⟩ := x
            unfold mvV at D4
            dsimp only at D4 m3 m7 K10
            go_wp2_with fail
            refine D4.out.mono ?_
            rintro e w5 ⟨rfl, b5⟩
            obtain ⟨w5', hw5⟩ : ∃ w5', Hid (w5' = w5.alloc (.cells #[.int .i64 xp, .bool xa, .bool xb, .bool xc, .bool xd] 27)) := ⟨_, Lib.hid rfl⟩
            have S5 : Hid (Below w2.heap.size w2 w5') := by show Below _ _ _; rw [hw5.out]; exact (S4.out.trans (b5.mono S4.out.size)).alloc (Nat.le_trans S4.out.size b5.size) _
            have G5 : Hid (Bk w5' w5.heap.size 27 #[.int .i64 xp, .bool xa, .bool xb, .bool xc, .bool xd]) := by show Bk _ _ _ _; rw [hw5.out]; exact Bk.new _ _ _
            have hg5 : w2.heap.size ≤ w5.heap.size := Nat.le_trans S4.out.size b5.size
            have D5 := Lib.hid (K5.out w5' S5.out)
            clear D4 b5 K5
            go_wp2_with fail
            rw [← hw5.out]
            generalize w5.heap.size = g5 at G5 hg5 ⊢
            refine D5.out.mono ?_
            rintro e w6 ⟨v6, rfl, o6, b6⟩
            have S6 := Lib.hid (S5.out.trans (b6.mono S5.out.size))
            have B6 := Lib.hid (B2.out.trans (S6.out.mono B2.out.size))
            have G6 := Lib.hid (Bk.over G5.out b6 (Bk.lt G5.out))
            have R6 : Hid (Rgs w6 w6.heap.size v6 (turnM t)) := Rd.own o6
            obtain ⟨A6, c6, rfl⟩ := R6.out.form
            have D6 := Lib.hid (kitMap_any _ _ (turnM t) l _ w6 R6.out ((HV.out w6 B6.out).mono B6.out.size) (Nat.le_refl _))
            rw [m1] at D6
            clear D5 b6 o6 S5 G5 R6 m1 hw5
            go_wp2_with fail
            refine D6.out.mono ?_
            rintro e w7 ⟨rfl, b7⟩
            have S7 := Lib.hid (S6.out.trans (b7.mono S6.out.size))
            have B7 := Lib.hid (B2.out.trans (S7.out.mono B2.out.size))
            have G7 := Lib.hid (Bk.over G6.out b7 (Bk.lt G6.out))
            have D7 := Lib.hid (C7.out w7 B7.out)
            clear D6 b7 S6 B6 G6 C7
            go_wp2_with fail
            refine D7.out.mono ?_
            rintro e w8 ⟨rfl, b8⟩
            have S8 := Lib.hid (S7.out.trans (b8.mono S7.out.size))
            have G8 := Lib.hid (Bk.over G7.out b8 (Bk.lt G7.out))
            have D8 := Lib.hid (K8.out w8 S8.out)
            clear D7 b8 S7 B7 G7 K8
            have hx0 : decide (xp < 0) = false := decide_eq_false (by omega)
            go_wp2_with fail
            refine D8.out.mono ?_
            rintro e w9 ⟨rfl, b9⟩
            have S9 := Lib.hid (S8.out.trans (b9.mono S8.out.size))
            have B9 := Lib.hid (B2.out.trans (S9.out.mono B2.out.size))
            have G9 := Lib.hid (Bk.over G8.out b9 (Bk.lt G8.out))
            have v0 : w9.cell? ⟨g5, 0, none⟩ = some (.int .i64 xp) := G9.out.cell 0
            have hg9 := G9.out.lt
            clear D8 b9 S8 G8
            by_cases x1 : 1048576 < xp
            · clear m3 m4 m5 m6 m7
              go_wp2
              go_ret
              exact ⟨by first | rfl | (refine ret_is ?_; simp [x1]), B9.out⟩
            · have x1' : decide (1048576 < xp) = false := decide_eq_false x1
              have m7 : Hid (b = false → z.p = p) := fun h => m7 (by omega) h
              obtain ⟨wx, hwx⟩ : ∃ wx, Hid (wx = ((w9.alloc (.cells #[.slice A l.length cap, .slice A2 t.length cap2] 24)).alloc (.cells #[.int .i64 0, .int .i64 1] 30)).alloc (.cells #[.slice (some ⟨w9.heap.size, 0, none⟩) 2 2, .slice (some ⟨w9.heap.size + 1, 0, none⟩) 1 1] 33)) := ⟨_, Lib.hid rfl⟩
              have Bx9 : Hid (Below w9.heap.size w9 wx) := by show Below _ _ _; rw [hwx.out]; exact (((Below.refl _ _).alloc (Nat.le_refl _) _).alloc (by simp) _).alloc (by simp; omega) _
              have HMs : Hid (Mss wx wx.heap.size (.slice (some ⟨w9.heap.size, 0, none⟩) 2 2) [l, t]) := by
                have r0 := Rd.lit w9 24 1 2 #[.slice A l.length cap, .slice A2 t.length cap2] (0, 0) rfl (by omega)
                have bb : Below (w9.heap.size + 1) (w9.alloc (.cells #[.slice A l.length cap, .slice A2 t.length cap2] 24)) wx := by rw [hwx.out]; exact ((Below.refl _ _).alloc (by simp) _).alloc (by simp) _
                have hs : w9.heap.size + 1 ≤ wx.heap.size := by rw [hwx.out]; simp
                refine ⟨[.slice A l.length cap, .slice A2 t.length cap2], rfl, (r0.below bb).mono hs, fun i h h' => ?_⟩
                have q1 := (HV.out _ (B9.out.trans (Bx9.out.mono B9.out.size))).mono (Nat.le_trans B9.out.size Bx9.out.size)
                have q2 := (HT.out _ (S9.out.trans (Bx9.out.mono S9.out.size))).mono (Nat.le_trans S9.out.size Bx9.out.size)
                match i, h with
                | 0, _ => exact q1
                | 1, _ => exact q2
              have HMi : Hid (Mis wx wx.heap.size (.slice (some ⟨w9.heap.size + 1, 0, none⟩) 1 1) [⟨0, 1⟩]) := by
                have r0 := Rd.lit (w9.alloc (.cells #[.slice A l.length cap, .slice A2 t.length cap2] 24)) 30 2 1 #[.int .i64 0, .int .i64 1] (0, 0) rfl (by omega)
                rw [World.size_alloc] at r0
                have bb : Below (w9.heap.size + 1 + 1) ((w9.alloc (.cells #[.slice A l.length cap, .slice A2 t.length cap2] 24)).alloc (.cells #[.int .i64 0, .int .i64 1] 30)) wx := by rw [hwx.out]; exact (Below.refl _ _).alloc (by simp) _
                exact (r0.below bb).mono (by rw [hwx.out]; first | done | simp)
              have Gx := Lib.hid (Bk.over G9.out Bx9.out (Bk.lt G9.out))
              have Kx : Hid (Bk wx (w9.heap.size + 1 + 1) 33 #[.slice (some ⟨w9.heap.size, 0, none⟩) 2 2, .slice (some ⟨w9.heap.size + 1, 0, none⟩) 1 1]) := by
                show Bk _ _ _ _; rw [hwx.out]
                have := Bk.new ((w9.alloc (.cells #[.slice A l.length cap, .slice A2 t.length cap2] 24)).alloc (.cells #[.int .i64 0, .int .i64 1] 30)) 33 #[.slice (some ⟨w9.heap.size, 0, none⟩) 2 2, .slice (some ⟨w9.heap.size + 1, 0, none⟩) 1 1]
                rwa [World.size_alloc, World.size_alloc] at this
              have CT := Lib.hid (mdThroughC_any _ _ [l, t] [⟨0, 1⟩] _ wx HMs.out HMi.out (Nat.le_refl _) p lean)
              rw [← HY.out] at CT
              obtain ⟨yp, ya, yb, yc, yd⟩ := y
              unfold mvV at CT
              dsimp only at CT m4 m5 m6
              subst m4 m5 m6
              clear HMs HMi HY
              go_wp2_with fail
              rw [← hwx.out]
              refine CT.out.mono ?_
              rintro e w10 ⟨rfl, b10⟩
              obtain ⟨w11, hw11⟩ : ∃ w11, Hid (w11 = w10.alloc (.cells #[.int .i64 yp, .bool ya, .bool yb, .bool false, .bool false] 27)) := ⟨_, Lib.hid rfl⟩
              have Bx11 : Hid (Below w9.heap.size w9 w11) := by show Below _ _ _; rw [hw11.out]; exact (Bx9.out.trans (b10.mono Bx9.out.size)).alloc (Nat.le_trans Bx9.out.size b10.size) _
              have B11 := Lib.hid (B9.out.trans (Bx11.out.mono B9.out.size))
              have S11 := Lib.hid (S9.out.trans (Bx11.out.mono S9.out.size))
              have G11 := Lib.hid (Bk.over G9.out Bx11.out (Bk.lt G9.out))
              have D9 := Lib.hid (C9.out w11 B11.out)
              clear CT C9 b10 Bx9 Bx11 Gx Kx hwx B9 S9 G9 v0 hg9
              go_wp2_with fail
              rw [← hw11.out]
              refine D9.out.mono ?_
              rintro e w12 ⟨rfl, b12⟩
              have B12 := Lib.hid (B11.out.trans (b12.mono B11.out.size))
              have S12 := Lib.hid (S11.out.trans (b12.mono S11.out.size))
              have G12 := Lib.hid (Bk.over G11.out b12 (Bk.lt G11.out))
              clear D9 b12 hw11 B11 S11 G11
              cases b with
              | true =>
                go_wp2
                go_ret
                exact ⟨rfl, B12.out⟩
              | false =>
                have hzp := m7.out (by trivial)
                have v0 : w12.cell? ⟨g5, 0, none⟩ = some (.int .i64 xp) := G12.out.cell 0
                have hg12 := G12.out.lt
                have D10 := Lib.hid (K10.out w12 S12.out)
                obtain ⟨zp, za, zb, zc, zd⟩ := z
                unfold mvV at D10
                dsimp only at D10 hzp
                have hfd := fun a b c d e w => field0_run a b c d e w
                have hzb : (zp == yp) = true := beq_iff_eq.2 hzp
                clear m7 K10 hzp
                go_wp2_with fail
                refine D10.out.mono ?_
                rintro e w13 ⟨rfl, b13⟩
                go_wp2
                go_ret
                exact ⟨rfl, B12.out.trans (b13.mono B12.out.size)⟩
      · have hcb : (c2 != 0) = true := by simpa using c20
        clear HM HD c20
        go_wp2
        go_ret
        exact ⟨rfl, B4.out⟩
    · have hcb : (c != 0) = true := by simpa using c0
      clear HM HD c0
      go_wp2
      go_ret
      exact ⟨rfl, B3.out⟩
end Go.Proofs.Ytiilbgejdpnfpaa
