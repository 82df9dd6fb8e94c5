/- Places through maps: P10.3, places keep their order, walked. -/
import Derived.Test.YtiilbgejdpnfpaaMd2
namespace Go.Proofs.Ytiilbgejdpnfpaa
open Go.RowKit Go.Mps

theorem Mis.nil (w : World) (B : Nat) : Mis w B (.slice none 0 0) [] := Rd.nil w B 2
theorem fieldMv_run (a : Int) (b c d e : Bool) (w : World) : (Instr.field 27 (.agg #[.int .i64 a, .bool b, .bool c, .bool d, .bool e]) 0).run Try.prog w = .ok (.int .i64 a) w := by kernel_rfl
theorem ret_t {x : Bool} (h : x = true) : Ending.returned (.bool x) = .returned (.bool true) := by rw [h]

set_option maxRecDepth 100000 in
set_option maxHeartbeats 4000000 in
theorem mapsOrder_walk (v : Value) (ms : List (List Rg)) (w : World) (hv : Mss w w.heap.size v ms) (p q lean : Int)
    (hlive : Calls Try.prog 9 #[] w fun e w' => e = .returned (.bool true) ∧ Below w.heap.size w w') :
    Calls Try.prog 7 #[v, .int .i64 p, .int .i64 q, .int .i64 lean] w fun e w' => e = .returned (.bool true) ∧ Below w.heap.size w w' := by
  obtain ⟨A, cap, rfl⟩ := hv.form
  have hm := hv.max
  unfold maxLen at hm
  have HV := Lib.hid (fun w' (h : Below w.heap.size w w') => hv.below h)
  clear hv
  have CC := Lib.hid (fun w' (h : Below w.heap.size w w') => mdCheckChain_any _ _ ms [] _ w' (HV.out w' h) (Mis.nil w' _) h.size)
  have CP := Lib.hid (fun w' (h : Below w.heap.size w w') => mdThroughC_any _ _ ms [] _ w' (HV.out w' h) (Mis.nil w' _) h.size p lean)
  have CQ := Lib.hid (fun w' (h : Below w.heap.size w w') => mdThroughC_any _ _ ms [] _ w' (HV.out w' h) (Mis.nil w' _) h.size q lean)
  obtain ⟨c, hc⟩ : ∃ c, Hid (c = checkC ms []) := ⟨_, Lib.hid rfl⟩
  obtain ⟨x, hx⟩ : ∃ x, Hid (x = throughM ms [] p lean) := ⟨_, Lib.hid rfl⟩
  obtain ⟨y, hy⟩ : ∃ y, Hid (y = throughM ms [] q lean) := ⟨_, Lib.hid rfl⟩
  have HO : Hid (c = 0 → 0 ≤ p → p ≤ q → q ≤ 1048576 → x.p ≤ y.p) := fun h1 h2 h3 h4 => by rw [hx.out, hy.out]; exact keeps_order (hc.out.symm.trans h1) h2 h3 h4
  rw [← hc.out] at CC
  rw [← hx.out] at CP
  rw [← hy.out] at CQ
  clear hc hx hy
  by_cases h300 : 300 < ms.length
  · have h1 : (300 : Int) < (ms.length : Int) := by omega
    go_enter Try.func7, Try.ntmps7
    go_wp2_with fail
    refine hlive.mono ?_
    rintro e w1 ⟨rfl, b1⟩
    go_wp2
    go_ret
    exact ⟨rfl, b1⟩
  · have h1 : (ms.length : Int) ≤ 300 := by omega
    go_enter Try.func7, Try.ntmps7
    go_wp2_with fail
    refine hlive.mono ?_
    rintro e w1 ⟨rfl, b1⟩
    have b1 := Lib.hid b1
    go_wp2
    go_loopw [9] (fun s wr => ∃ k : Nat, k ≤ ms.length ∧ s = .int .i64 k ∧ Hid (Below w.heap.size w wr)) (fun x _ => ms.length - (intOf x).toNat)
    case atStart => exact ⟨0, Nat.zero_le _, rfl, b1⟩
    case round =>
      obtain ⟨k, hk, rfl, HB⟩ := hrel
      by_cases hlt : k < ms.length
      · have hkI : (k : Int) < (ms.length : Int) := by omega
        have hk0 : (0 : Int) ≤ k := by omega
        obtain ⟨b, off, A3, c3, rfl, hb, hcap, c0, hr⟩ := (HV.out _ HB.out).at hlt
        by_cases h80 : 80 < ms[k].length
        · have h2 : (80 : Int) < (ms[k].length : Int) := by omega
          clear hr
          go_wp2
          go_ret
          exact ⟨rfl, HB.out⟩
        · have h2 : (ms[k].length : Int) ≤ 80 := by omega
          clear hr h80
          go_wp2
          go_roundw
          case rel => exact ⟨k + 1, by omega, by go_num, HB⟩
          case measure => simp [intOf]; omega
      · obtain rfl : k = ms.length := by omega
        obtain ⟨wa, hwa⟩ : ∃ wa, Hid (wa = wr.alloc (.cells #[.slice A ms.length cap, .slice none 0 0] 33)) := ⟨_, Lib.hid rfl⟩
        have HBa : Hid (Below w.heap.size w wa) := by show Below _ _ _; rw [hwa.out]; exact HB.out.alloc HB.out.size _
        have HKa : Hid (Bk wa wr.heap.size 33 #[.slice A ms.length cap, .slice none 0 0]) := by show Bk _ _ _ _; rw [hwa.out]; exact Bk.new _ _ _
        have k0 : wa.cell? ⟨wr.heap.size, 0, none⟩ = some (.slice A ms.length cap) := HKa.out.cell 0
        have k1 : wa.cell? ⟨wr.heap.size, 1, none⟩ = some (.slice none 0 0) := HKa.out.cell 1
        have CCa := Lib.hid (CC.out wa HBa.out)
        clear CC
        go_wp2_with fail
        rw [← hwa.out]
        refine CCa.out.mono ?_
        rintro e w2 ⟨rfl, hb2⟩
        have HB2 := Lib.hid (HBa.out.trans (hb2.mono HBa.out.size))
        have HK2 := Lib.hid (Bk.over HKa.out hb2 (Bk.lt HKa.out))
        clear CCa hb2 k0 k1
        by_cases c0 : c = 0
        · subst c0
          by_cases p0 : p < 0
          · clear HO
            go_wp2
            go_ret
            exact ⟨rfl, HB2.out⟩
          · have p0' : decide (p < 0) = false := decide_eq_false p0
            by_cases q0 : q < p
            · clear HO p0
              go_wp2
              go_ret
              exact ⟨rfl, HB2.out⟩
            · have q0' : decide (q < p) = false := decide_eq_false q0
              by_cases q1 : 1048576 < q
              · clear HO p0 q0
                go_wp2
                go_ret
                exact ⟨rfl, HB2.out⟩
              · have q1' : decide (1048576 < q) = false := decide_eq_false q1
                have hle := HO.out rfl (by omega) (by omega) (by omega)
                have k0 : w2.drew.cell? ⟨wr.heap.size, 0, none⟩ = some (.slice A ms.length cap) := HK2.out.cell 0
                have k1 : w2.drew.cell? ⟨wr.heap.size, 1, none⟩ = some (.slice none 0 0) := HK2.out.cell 1
                have hl2 := Bk.lt HK2.out
                obtain ⟨xp, xa, xb, xc, xd⟩ := x
                obtain ⟨yp, ya, yb, yc, yd⟩ := y
                unfold mvV at CP CQ
                dsimp only at CP CQ hle
                have hf : decide (xp ≤ yp) = true := decide_eq_true hle
                clear HO p0 q0 q1
                have hfd := fun a b c d e w => fieldMv_run a b c d e w
                go_wp2_with fail
                go_region_held3 (fun w' => w'.cell? ⟨wr.heap.size, 0, none⟩ = some (.slice A ms.length cap) ∧ w'.cell? ⟨wr.heap.size, 1, none⟩ = some (.slice none 0 0))
                  (first | exact ⟨k0, k1⟩ | exact ⟨(hb3.cell (p := ⟨wr.heap.size, 0, none⟩) hl2).trans k0, (hb3.cell (p := ⟨wr.heap.size, 1, none⟩) hl2).trans k1⟩ | exact ⟨(hb4.cell (p := ⟨wr.heap.size, 0, none⟩) hl3).trans ((hb3.cell (p := ⟨wr.heap.size, 0, none⟩) hl2).trans k0), (hb4.cell (p := ⟨wr.heap.size, 1, none⟩) hl3).trans ((hb3.cell (p := ⟨wr.heap.size, 1, none⟩) hl2).trans k1)⟩)
                  (first
                    | (go_at_call 8; refine (CQ.out w3 B3.out).mono ?_; rintro e4 w4 ⟨rfl, hb4⟩; have B4 := Lib.hid (B3.out.trans (hb4.mono B3.out.size)))
                    | (go_at_call 8; refine (CP.out w3 B3.out).mono ?_; rintro e4 w4 ⟨rfl, hb4⟩; have B4 := Lib.hid (B3.out.trans (hb4.mono B3.out.size)))
                    | (go_at_call 8; refine (CP.out w2.drew HB2.out.drew).mono ?_; rintro e3 w3 ⟨rfl, hb3⟩; have B3 := Lib.hid (HB2.out.drew.trans (hb3.mono HB2.out.size)); have hl3 : wr.heap.size < w3.heap.size := Nat.lt_of_lt_of_le hl2 hb3.size)
                    | (go_at_call 8; refine (CQ.out w2.drew HB2.out.drew).mono ?_; rintro e3 w3 ⟨rfl, hb3⟩; have B3 := Lib.hid (HB2.out.drew.trans (hb3.mono HB2.out.size)); have hl3 : wr.heap.size < w3.heap.size := Nat.lt_of_lt_of_le hl2 hb3.size))
                all_goals
                  go_wp2
                  go_ret
                  exact ⟨rfl, B4.out⟩
        · have hcb : (c != 0) = true := by simpa using c0
          clear HO c0
          go_wp2
          go_ret
          exact ⟨rfl, HB2.out⟩
end Go.Proofs.Ytiilbgejdpnfpaa
