/- Contracts of both sums. -/
import Derived.Test.YtnnimiemmgakcaaRefA
import Derived.Test.YtnnimiemmgakcaaCrc
namespace Go.Proofs.Ytnnimiemmgakcaa
open Go.RowKit

theorem u32_xorN {a b : Nat} (ha : a < 2 ^ 32) (hb : b < 2 ^ 32) : bits .xor .u32 (a : Int) (b : Int) = ((a ^^^ b : Nat) : Int) := u32_xor_nat a b (by omega) (by omega)
theorem st_odd {c : Nat} (hc : c < 2 ^ 32) (h : c % 2 = 1) : bits .xor .u32 ((c : Int) / 2 % 4294967296) 3988292384 = ((st c : Nat) : Int) := by
  have h1 : ((c : Int) / 2 % 4294967296) = ((c / 2 : Nat) : Int) := by omega
  have h2 : (3988292384 : Int) = ((poly : Nat) : Int) := rfl
  rw [h1, h2, u32_xorN (by omega) poly_lt]
  unfold st
  rw [if_pos h]
theorem st_even {c : Nat} (hc : c < 2 ^ 32) (h : ¬ c % 2 = 1) : (c : Int) / 2 % 4294967296 = ((st c : Nat) : Int) := by
  unfold st
  rw [if_neg h]
  omega
theorem ones_xor {c : Nat} (hc : c < 2 ^ 32) : bits .xor .u32 IntKind.u32.max (c : Int) = ((ones ^^^ c : Nat) : Int) := by
  have h2 : IntKind.u32.max = ((ones : Nat) : Int) := rfl
  rw [h2, u32_xorN (by decide) hc]
theorem take_snoc' (l : List UInt8) (k : Nat) (hk : k < l.length) : l.take (k + 1) = l.take k ++ [l.getD k 0] := by
  rw [List.take_succ_eq_append_getElem hk]
  simp [List.getD, hk]

set_option maxRecDepth 100000 in
set_option maxHeartbeats 400000 in
theorem refSum_any (v : Value) (l : List UInt8) (b : Nat) (w : World) (hv : Bs w b v l) (hl : l.length ≤ 1000000000) :
    Calls Try.prog 18 #[v] w fun e w' => e = .returned (.int .u32 (sumL l)) ∧ w = w' := by
  obtain ⟨A, cap, rfl, hc, hm, hcells⟩ := hv
  go_enter Try.func18, Try.ntmps18
  go_wp2
  go_loop [3, 4] (fun c i => ∃ k X : Nat, k ≤ l.length ∧ i = .int .i64 k ∧ c = .int .u32 X ∧ Hid (X = crcL ones (l.take k))) (fun _ i => l.length - (intOf i).toNat)
  case atStart => exact ⟨0, ones, Nat.zero_le _, rfl, rfl, rfl⟩
  case round =>
    obtain ⟨k, X, hk, rfl, rfl, hX⟩ := hrel
    have hXlt : Hid (X < 2 ^ 32) := by show _ < _; rw [hX.out]; exact crcL_lt _ (by decide)
    by_cases hlt : k < l.length
    · rcases hcells with rfl | ⟨off, rfl, _, hcell⟩
      · simp at hlt
      have hck := hcell k _ (cellsB_get l k hlt)
      obtain ⟨c, hcc⟩ : ∃ c : UInt8, l.getD k 0 = c := ⟨_, rfl⟩
      rw [hcc] at hck
      have hsn := take_snoc' l k hlt
      rw [hcc] at hsn
      have HS := Lib.hid hsn
      clear hcell hcc hsn
      obtain ⟨Y, hY⟩ : ∃ Y : Nat, X ^^^ c.toNat = Y := ⟨_, rfl⟩
      have hcb := c.toNat_lt
      have hx : bits BinOp.xor IntKind.u32 (X : Int) ((c.toNat : Int) % 4294967296) = (Y : Int) := by
        rw [show ((c.toNat : Int) % 4294967296) = (c.toNat : Int) by omega, u32_xorN hXlt.out (by omega), hY]
      have hYlt : Hid (Y < 2 ^ 32) := by show _ < _; rw [← hY]; exact Nat.xor_lt_two_pow hXlt.out (by omega)
      have HY := Lib.hid hY
      clear hY hcb
      go_wp2
      clear hx hck
      go_loop [3, 5] (fun c i => ∃ j Z : Nat, j ≤ 8 ∧ i = .int .i64 j ∧ c = .int .u32 Z ∧ Hid (Z = stN j Y)) (fun _ i => 8 - (intOf i).toNat)
      case atStart => exact ⟨0, Y, by omega, rfl, rfl, rfl⟩
      case round =>
        obtain ⟨j, Z, hj, rfl, rfl, hZ⟩ := hrel
        have hZlt : Hid (Z < 2 ^ 32) := by show _ < _; rw [hZ.out]; exact stN_lt _ hYlt.out
        have HZ : Hid (stN (j + 1) Y = st Z) := by show _ = _; rw [stN_succ, hZ.out]
        by_cases hj8 : j < 8
        · by_cases hodd : Z % 2 = 1
          · have hx := st_odd hZlt.out hodd
            have hodd' : (((Z : Int) % 2) == 1) = true := beq_iff_eq.2 (by omega)
            clear hodd
            go_wp2
            go_round
            case rel => exact ⟨j + 1, st Z, by omega, by go_num, rfl, by show _ = _; rw [HZ.out]⟩
            case measure => simp [intOf]; omega
          · have hx := Lib.hid (st_even hZlt.out hodd)
            have hodd' : (((Z : Int) % 2) == 1) = false := beq_eq_false_iff_ne.2 (by omega)
            clear hodd
            go_wp2
            go_round
            case rel => exact ⟨j + 1, st Z, by omega, by go_num, by rw [hx.out], by show _ = _; rw [HZ.out]⟩
            case measure => simp [intOf]; omega
        · go_wp2
          go_round
          case rel => exact ⟨k + 1, Z, by omega, by go_num, rfl, by
            show _ = _
            rw [HS.out, crcL_snoc, ← hX.out, hZ.out, ← HY.out, show j = 8 by omega]; rfl⟩
          case measure => simp [intOf]; omega
    · have hk' : Hid (l.take k = l) := List.take_of_length_le (by omega)
      have hf := Lib.hid (ones_xor hXlt.out)
      go_wp2
      go_ret
      exact ⟨ret_int (by rw [hf.out, hX.out, hk'.out]; rfl), rfl⟩
theorem zeroA_run (w : World) : (zeroValue 50).run Try.prog w = .ok (.agg (Array.replicate 256 (.int .u32 0))) w := by kernel_rfl
theorem zeroA_any : ∃ Z : Array Value, Hid (Z.size = 256) ∧ ∀ w : World, (zeroValue 50).run Try.prog w = .ok (.agg Z) w := ⟨_, Array.size_replicate, zeroA_run⟩

theorem table_set {cs : Array Value} {k Z : Nat} (hs : cs.size = 256) (hk : k < 256) (h : ∀ j, j < k → cs[j]? = some (.int .u32 (stN 8 j : Nat))) (hZ : Z = stN 8 k) :
    (cs.setIfInBounds k (.int .u32 Z)).size = 256 ∧ ∀ j, j < k + 1 → (cs.setIfInBounds k (.int .u32 Z))[j]? = some (.int .u32 (stN 8 j : Nat)) := by
  refine ⟨by simp [hs], fun j hj => ?_⟩
  rw [Array.getElem?_setIfInBounds]
  by_cases e : k = j
  · subst e; simp [hs, hk, hZ]
  · rw [if_neg e]; exact h j (by omega)

theorem lowbit (Z : Nat) (h : Z < 2 ^ 32) : bits .and .u32 (Z : Int) 1 = ((Z % 2 : Nat) : Int) := by
  have := u32_and_nat Z 1 (by omega) (by omega)
  rw [nat_mask1] at this
  exact this
theorem st_odd' {c : Nat} (hc : c < 2 ^ 32) (h : c % 2 = 1) : bits .xor .u32 ((c : Int) / 2) 3988292384 = ((st c : Nat) : Int) := by
  rw [← st_odd hc h]; congr 1; omega
theorem st_even' {c : Nat} (h : ¬ c % 2 = 1) : (c : Int) / 2 = ((st c : Nat) : Int) := by
  unfold st; rw [if_neg h]; omega

set_option maxRecDepth 100000 in
set_option maxHeartbeats 400000 in
theorem sum_any (v : Value) (l : List UInt8) (b : Nat) (w : World) (hv : Bs w b v l) (hl : l.length ≤ 1000000000) :
    Calls Try.prog 17 #[v] w fun e w' => e = .returned (.int .u32 (sumL l)) ∧ Below w.heap.size w w' := by
  obtain ⟨Z, hZs, hz⟩ := zeroA_any
  go_enter Try.func17, Try.ntmps17
  go_wp2
  clear hz
  go_loopw [9] (fun i wr => ∃ (k : Nat) (cs : Array Value), k ≤ 256 ∧ i = .int .i64 k ∧ Hid (Bk wr w.heap.size 50 cs) ∧ Hid (cs.size = 256) ∧ Hid (∀ j, j < k → cs[j]? = some (.int .u32 (stN 8 j : Nat))) ∧ Below w.heap.size w wr) (fun i _ => 256 - (intOf i).toNat)
  case atStart => exact ⟨0, Z, by omega, rfl, Bk.new _ _ _, hZs, fun j hj => absurd hj (by omega), (Below.refl _ _).alloc (Nat.le_refl _) _⟩
  case round =>
    obtain ⟨k, cs, hk, rfl, hB, hcs, htab, hb⟩ := hrel
    by_cases hlt : k < 256
    · obtain ⟨wo, hwo⟩ : ∃ wo : World, wo = wr := ⟨_, rfl⟩
      subst hwo
      go_wp2
      go_loop [5, 14] (fun c i => ∃ j Z : Nat, j ≤ 8 ∧ i = .int .i64 j ∧ c = .int .u32 Z ∧ Hid (Z = stN j k)) (fun _ i => 8 - (intOf i).toNat)
      case atStart => exact ⟨0, k, by omega, rfl, by first | rfl | (congr 1; omega), rfl⟩
      case round =>
        obtain ⟨j, Z, hj, rfl, rfl, hZ⟩ := hrel
        have hZlt : Hid (Z < 2 ^ 32) := by show _ < _; rw [hZ.out]; exact stN_lt _ (by omega)
        have HZ : Hid (stN (j + 1) k = st Z) := by show _ = _; rw [stN_succ, hZ.out]
        by_cases hj8 : j < 8
        · have hlow := lowbit Z hZlt.out
          by_cases hodd : Z % 2 = 1
          · have hx := st_odd' hZlt.out hodd
            have hodd' : ((((Z % 2 : Nat) : Int)) == 1) = true := beq_iff_eq.2 (by omega)
            clear hodd
            go_wp2
            go_round
            case rel => exact ⟨j + 1, st Z, by omega, by go_num, rfl, by show _ = _; rw [HZ.out]⟩
            case measure => simp [intOf]; omega
          · have hx := Lib.hid (st_even' hodd)
            have hodd' : ((((Z % 2 : Nat) : Int)) == 1) = false := beq_eq_false_iff_ne.2 (by omega)
            clear hodd
            go_wp2
            go_round
            case rel => exact ⟨j + 1, st Z, by omega, by go_num, by rw [hx.out], by show _ = _; rw [HZ.out]⟩
            case measure => simp [intOf]; omega
        · obtain ⟨h1, h2⟩ := table_set hcs.out hlt htab.out (show Z = stN 8 k by rw [hZ.out]; congr 1; omega)
          have hB' : Hid (Bk (wo.setCell ⟨w.heap.size, k, none⟩ (.int .u32 Z)) w.heap.size 50 (cs.setIfInBounds k (.int .u32 Z))) := hB.out.set k _
          have hb' : Below w.heap.size w (wo.setCell ⟨w.heap.size, k, none⟩ (.int .u32 Z)) := hb.setCell (p := ⟨w.heap.size, k, none⟩) (Nat.le_refl _) _
          have hfz := hB.out.frozen k
          have hce : wo.cell? ⟨w.heap.size, k, none⟩ = some (cs[k]'(by rw [hcs.out]; exact hlt)) := by rw [hB.out.cell k]; exact Array.getElem?_eq_getElem _
          have H1 := Lib.hid h1
          have H2 := Lib.hid h2
          clear h1 h2
          go_wp2
          go_roundw
          case rel => exact ⟨k + 1, _, by omega, by go_num, hB', H1.out, H2.out, hb'⟩
          case measure => simp [intOf]; omega
    · have h256 : k = 256 := by omega
      subst h256
      have hv' := hv.all hb
      obtain ⟨A, cap, rfl, hc, hm, hcells⟩ := hv'
      clear hv
      go_wp2
      go_loop [6, 31] (fun c i => ∃ k X : Nat, k ≤ l.length ∧ i = .int .i64 k ∧ c = .int .u32 X ∧ Hid (X = crcL ones (l.take k))) (fun _ i => l.length - (intOf i).toNat)
      case atStart => exact ⟨0, ones, Nat.zero_le _, rfl, rfl, rfl⟩
      case round =>
        obtain ⟨k, X, hk, rfl, rfl, hX⟩ := hrel
        have hXlt : Hid (X < 2 ^ 32) := by show _ < _; rw [hX.out]; exact crcL_lt _ (by decide)
        by_cases hlt : k < l.length
        · rcases hcells with rfl | ⟨off, rfl, _, hcell⟩
          · simp at hlt
          have hck := hcell k _ (cellsB_get l k hlt)
          obtain ⟨c, hcc⟩ : ∃ c : UInt8, l.getD k 0 = c := ⟨_, rfl⟩
          rw [hcc] at hck
          have hsn := take_snoc' l k hlt
          rw [hcc] at hsn
          have HS := Lib.hid hsn
          clear hcell hcc hsn
          obtain ⟨Y, hY⟩ : ∃ Y : Nat, X % 256 ^^^ c.toNat = Y := ⟨_, rfl⟩
          have hcb := c.toNat_lt
          have hYlt : Y < 256 := by rw [← hY]; exact Nat.xor_lt_two_pow (n := 8) (by omega) (by omega)
          have hx1 : bits BinOp.xor IntKind.u8 ((X : Int) % 256) (c.toNat : Int) = (Y : Int) := by
            rw [show ((X : Int) % 256) = ((X % 256 : Nat) : Int) by omega, u8_xor_nat _ _ (by omega) (by omega), hY]
          have hcy : wr.cell? ⟨w.heap.size, Y, none⟩ = some (.int .u32 (stN 8 Y : Nat)) := by rw [hB.out.cell Y]; exact htab.out Y hYlt
          have hx2 : bits BinOp.xor IntKind.u32 ((X : Int) / 256) ((stN 8 Y : Nat) : Int) = ((crcB X c : Nat) : Int) := by
            rw [show ((X : Int) / 256) = ((X / 256 : Nat) : Int) by omega, u32_xorN (by have := hXlt.out; omega) (stN_lt 8 (by omega)), ← hY, crcB_table]
          clear hY hcb
          go_wp2
          go_round
          case rel => exact ⟨k + 1, crcB X c, by omega, by go_num, rfl, by show _ = _; rw [HS.out, crcL_snoc, ← hX.out]⟩
          case measure => simp [intOf]; omega
        · have hk' : Hid (l.take k = l) := List.take_of_length_le (by omega)
          have hf := Lib.hid (ones_xor hXlt.out)
          go_wp2
          go_ret
          exact ⟨ret_int (by rw [hf.out, hX.out, hk'.out]; rfl), hb⟩
end Go.Proofs.Ytnnimiemmgakcaa
