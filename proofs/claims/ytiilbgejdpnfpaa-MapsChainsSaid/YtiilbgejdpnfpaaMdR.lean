/- Places through maps: P10.2 walked. -/
import Derived.Test.YtiilbgejdpnfpaaMd2
import Derived.Test.YtiilbgejdpnfpaaMdN
import Derived.Test.YtiilbgejdpnfpaaMpTh
namespace Go.Proofs.Ytiilbgejdpnfpaa
open Go.RowKit Go.Mps

set_option maxRecDepth 100000 in
set_option maxHeartbeats 4000000 in
theorem mapsChains_walk (v1 v2 : Value) (ms : List (List Rg)) (l : List Mi) (w : World) (h1 : Mss w w.heap.size v1 ms) (h2 : Mis w w.heap.size v2 l) (p lean : Int)
    (hlive : ∀ w : World, Calls Try.prog 9 #[] w fun e w' => e = .returned (.bool true) ∧ Below w.heap.size w w') :
    Calls Try.prog 5 #[.agg #[v1, v2], .int .i64 p, .int .i64 lean] w fun e w' => e = .returned (.bool true) ∧ Below w.heap.size w w' := by
  obtain ⟨A, cap, rfl⟩ := h1.form
  obtain ⟨A2, cap2, rfl⟩ := h2.form
  have hm1 := h1.max
  have hm2 := h2.max
  unfold maxLen at hm1 hm2
  have HV1 := Lib.hid (fun w' (h : Below w.heap.size w w') => h1.below h)
  have HV2 := Lib.hid (fun w' (h : Below w.heap.size w w') => h2.below h)
  have C1 := Lib.hid (fun w' (h : Below w.heap.size w w') => mdCheckChain_any _ _ ms l _ w' (h1.below h) (h2.below h) h.size)
  have C2 := Lib.hid (fun w' (h : Below w.heap.size w w') => refMpCheckChain_any _ _ ms l _ w' (h1.below h) (h2.below h) h.size)
  have C3 := Lib.hid (fun w' (h : Below w.heap.size w w') => mdThroughC_any _ _ ms l _ w' (h1.below h) (h2.below h) h.size p lean)
  have C4 := Lib.hid (fun w' (h : Below w.heap.size w w') => refMpThrough_any _ _ ms l _ w' (h1.below h) (h2.below h) h.size p lean)
  have hgd := fun x y m w => guardMv_run x y m w
  have hss := fun m w => sameMv_run m w
  obtain ⟨c, hc⟩ : ∃ c, Hid (c = checkC ms l) := ⟨_, Lib.hid rfl⟩
  obtain ⟨x, hx⟩ : ∃ x, Hid (x = throughM ms l p lean) := ⟨_, Lib.hid rfl⟩
  rw [← hc.out] at C1 C2
  rw [← hx.out] at C3 C4
  obtain ⟨wa, hwa⟩ : ∃ wa, Hid (wa = w.alloc (.cells #[.slice A ms.length cap, .slice A2 l.length cap2] 33)) := ⟨_, Lib.hid rfl⟩
  have HBa : Hid (Below w.heap.size w wa) := by show Below _ _ _; rw [hwa.out]; exact (Below.refl _ _).alloc (Nat.le_refl _) _
  have HKa : Hid (Bk wa w.heap.size 33 #[.slice A ms.length cap, .slice A2 l.length cap2]) := by show Bk _ _ _ _; rw [hwa.out]; exact Bk.new _ _ _
  have HL := Lib.hid (hlive wa)
  clear h1 h2 hc hx hlive
  go_enter Try.func5, Try.ntmps5
  go_wp2_with fail
  rw [← hwa.out]
  refine HL.out.mono ?_
  rintro e w1 ⟨rfl, b1⟩
  have HB1 := Lib.hid (HBa.out.trans (b1.mono HBa.out.size))
  have HK1 := Lib.hid (Bk.over HKa.out b1 (Bk.lt HKa.out))
  have k0 : w1.cell? ⟨w.heap.size, 0, none⟩ = some (.slice A ms.length cap) := HK1.out.cell 0
  have k1 : w1.cell? ⟨w.heap.size, 1, none⟩ = some (.slice A2 l.length cap2) := HK1.out.cell 1
  clear HL b1 HBa HKa hwa
  by_cases h300 : 300 < ms.length
  · have h1 : (300 : Int) < (ms.length : Int) := by omega
    go_wp2
    go_ret
    exact ⟨rfl, HB1.out⟩
  · have h1 : (ms.length : Int) ≤ 300 := by omega
    have h1' : decide ((300 : Int) < (ms.length : Int)) = false := decide_eq_false (by omega)
    by_cases h301 : 300 < l.length
    · have h2 : (300 : Int) < (l.length : Int) := by omega
      go_wp2
      go_ret
      exact ⟨rfl, HB1.out⟩
    · have h2 : (l.length : Int) ≤ 300 := by omega
      go_wp2
      go_loopw [7] (fun s wr => ∃ k : Nat, k ≤ ms.length ∧ s = .int .i64 k ∧ Hid (Bk wr w.heap.size 33 #[.slice A ms.length cap, .slice A2 l.length cap2]) ∧ Hid (Below w.heap.size w wr)) (fun x _ => ms.length - (intOf x).toNat)
      case atStart => exact ⟨0, Nat.zero_le _, rfl, HK1, HB1⟩
      case round =>
        obtain ⟨k, hk, rfl, HK, HB⟩ := hrel
        have k0 : wr.cell? ⟨w.heap.size, 0, none⟩ = some (.slice A ms.length cap) := HK.out.cell 0
        have hl0 := HK.out.lt
        by_cases hlt : k < ms.length
        · have hkI : (k : Int) < (ms.length : Int) := by omega
          have hk0 : (0 : Int) ≤ k := by omega
          obtain ⟨b, off, A3, c3, rfl, hb, hcap, c0, hr⟩ := (HV1.out _ HB.out).at hlt
          by_cases h80 : 80 < ms[k].length
          · have h3 : (80 : Int) < (ms[k].length : Int) := by omega
            clear hr
            go_wp2
            go_ret
            exact ⟨rfl, HB.out⟩
          · have h3 : (ms[k].length : Int) ≤ 80 := by omega
            clear hr h80
            go_wp2
            go_roundw
            case rel => exact ⟨k + 1, by omega, by go_num, HK, HB⟩
            case measure => simp [intOf]; omega
        · obtain rfl : k = ms.length := by omega
          have k0 : wr.drew.cell? ⟨w.heap.size, 0, none⟩ = some (.slice A ms.length cap) := HK.out.cell 0
          have k1 : wr.drew.cell? ⟨w.heap.size, 1, none⟩ = some (.slice A2 l.length cap2) := HK.out.cell 1
          have D1 := Lib.hid (C1.out wr.drew HB.out.drew)
          clear C1
          go_wp2_with fail
          go_region_held3 (fun w' => w'.cell? ⟨w.heap.size, 0, none⟩ = some (.slice A ms.length cap) ∧ w'.cell? ⟨w.heap.size, 1, none⟩ = some (.slice A2 l.length cap2))
            (first | exact ⟨k0, k1⟩ | exact ⟨e0, e1⟩ | exact ⟨f0, f1⟩ | exact ⟨g0, g1⟩ | exact ⟨i0, i1⟩)
            (first
              | (go_at_call 21; refine D1.out.mono ?_; rintro q2 w2 ⟨rfl, hb2⟩; have B2 := Lib.hid (HB.out.drew.trans (hb2.mono HB.out.size)); have l2 : w.heap.size < w2.heap.size := Nat.lt_of_lt_of_le hl0 hb2.size; have e0 := (hb2.cell (p := ⟨w.heap.size, 0, none⟩) hl0).trans k0; have e1 := (hb2.cell (p := ⟨w.heap.size, 1, none⟩) hl0).trans k1)
              | (go_at_call 22; refine (C2.out w2 B2.out).mono ?_; rintro q3 w3 ⟨rfl, hb3⟩; have B3 := Lib.hid (B2.out.trans (hb3.mono B2.out.size)); have l3 : w.heap.size < w3.heap.size := Nat.lt_of_lt_of_le l2 hb3.size; have f0 := (hb3.cell (p := ⟨w.heap.size, 0, none⟩) l2).trans e0; have f1 := (hb3.cell (p := ⟨w.heap.size, 1, none⟩) l2).trans e1)
              | (go_at_call 8; refine (C3.out w3 B3.out).mono ?_; rintro q4 w4 ⟨rfl, hb4⟩; have B4 := Lib.hid (B3.out.trans (hb4.mono B3.out.size)); have l4 : w.heap.size < w4.heap.size := Nat.lt_of_lt_of_le l3 hb4.size; have g0 := (hb4.cell (p := ⟨w.heap.size, 0, none⟩) l3).trans f0; have g1 := (hb4.cell (p := ⟨w.heap.size, 1, none⟩) l3).trans f1)
              | (go_at_call 23; refine (C4.out w4 B4.out).mono ?_; rintro q5 w5 ⟨rfl, hb5⟩; have B5 := Lib.hid (B4.out.trans (hb5.mono B4.out.size)); have i0 := (hb5.cell (p := ⟨w.heap.size, 0, none⟩) l4).trans g0; have i1 := (hb5.cell (p := ⟨w.heap.size, 1, none⟩) l4).trans g1))
          all_goals
            go_wp2
            go_ret
            exact ⟨rfl, B5.out⟩
end Go.Proofs.Ytiilbgejdpnfpaa
