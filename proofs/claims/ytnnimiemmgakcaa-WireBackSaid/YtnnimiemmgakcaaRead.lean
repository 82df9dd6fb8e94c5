/- Contracts of package wire's reader. -/
import Derived.Test.YtnnimiemmgakcaaWire
import Derived.WalkMore
namespace Go.Proofs.Ytnnimiemmgakcaa
open Go.RowKit

/-- what 'first' reads of l, from its i-th byte on, x read so far: the number, its size, the error -/
def rdF (x i : Nat) : List UInt8 → Nat × Nat × Nat
  | [] => (0, 0, 5)
  | c :: r =>
    if i = 9 ∧ 1 < c.toNat then (0, 0, 4) else if 0 < i ∧ c.toNat = 0 then (0, 0, 4)
    else if c.toNat < 128 then (x + c.toNat % 128 * 2 ^ (7 * i), i + 1, 0) else rdF (x + c.toNat % 128 * 2 ^ (7 * i)) (i + 1) r

/-- three results; the first two only where there is no error -/
def Told (w : World) (r : Nat × Nat × Nat) (e : Ending) (w' : World) : Prop :=
  ∃ y s : Int, e = .returned (.tuple #[.int .u64 y, .int .i64 s, .int .i64 (r.2.2 : Nat)]) ∧ (r.2.2 = 0 → y = (r.1 : Nat) ∧ s = (r.2.1 : Nat)) ∧ w = w'

theorem acc_small (c k : Nat) (hk : k ≤ 9) (hc : c < 256) (h : k ≤ 8 ∨ c ≤ 1) : c % 128 * 2 ^ (7 * k) < 18446744073709551616 := by
  rcases h with h | h
  · have h1 : c % 128 * 2 ^ (7 * k) ≤ 127 * 2 ^ (7 * k) := Nat.mul_le_mul_right _ (by omega)
    have h2 : (2 : Nat) ^ (7 * k) ≤ 2 ^ 56 := Nat.pow_le_pow_right (by decide) (by omega)
    have h3 : (2 : Nat) ^ 56 = 72057594037927936 := rfl
    omega
  · have h1 : c % 128 * 2 ^ (7 * k) ≤ 1 * 2 ^ (7 * k) := Nat.mul_le_mul_right _ (by omega)
    have h2 : (2 : Nat) ^ (7 * k) ≤ 2 ^ 63 := Nat.pow_le_pow_right (by decide) (by omega)
    have h3 : (2 : Nat) ^ 63 = 9223372036854775808 := rfl
    omega
theorem acc_form (X k : Nat) (c : UInt8) (hX : X < 2 ^ (7 * k)) (hk : k ≤ 9) (h : k ≤ 8 ∨ c.toNat ≤ 1) :
    bits .or .u64 (X : Int) (IntKind.u64.wrap (IntKind.u64.wrap (bits .andNot .u8 (c.toNat : Int) 128) * 2 ^ (7 * k))) = ((X + c.toNat % 128 * 2 ^ (7 * k) : Nat) : Int) := by
  have hc := c.toNat_lt
  have hs := acc_small c.toNat k hk hc h
  have h0 : bits .andNot .u8 (c.toNat : Int) 128 = ((c.toNat % 128 : Nat) : Int) := by
    have := u8_andNot_nat c.toNat 128 (by omega) (by omega)
    rw [show (255 - 128 : Nat) = 127 from rfl, nat_mask7] at this
    exact this
  have h1 : IntKind.u64.wrap ((c.toNat % 128 : Nat) : Int) = ((c.toNat % 128 : Nat) : Int) := IntWalk.u64_in _ ⟨by omega, by omega⟩
  have e1 : ((c.toNat % 128 : Nat) : Int) * 2 ^ (7 * k) = ((c.toNat % 128 * 2 ^ (7 * k) : Nat) : Int) := by
    rw [Int.natCast_mul, Int.natCast_pow]; rfl
  have h2 : IntKind.u64.wrap ((c.toNat % 128 * 2 ^ (7 * k) : Nat) : Int) = ((c.toNat % 128 * 2 ^ (7 * k) : Nat) : Int) := IntWalk.u64_in _ ⟨by omega, by omega⟩
  have hX2 : X < 18446744073709551616 := by
    have h2 : (2 : Nat) ^ (7 * k) ≤ 2 ^ 63 := Nat.pow_le_pow_right (by decide) (by omega)
    have h3 : (2 : Nat) ^ 63 = 9223372036854775808 := rfl
    omega
  rw [h0, h1, e1, h2, u64_or_nat X _ hX2 hs, Nat.or_comm, nat_join (7 * k) _ _ (Nat.mul_mod_left _ _) hX, Nat.add_comm]
theorem acc_lt (X k : Nat) (c : Nat) (hX : X < 2 ^ (7 * k)) : X + c % 128 * 2 ^ (7 * k) < 2 ^ (7 * (k + 1)) := by
  have h1 : (c % 128 + 1) * 2 ^ (7 * k) ≤ 128 * 2 ^ (7 * k) := Nat.mul_le_mul_right _ (by omega)
  have h2 : (2 : Nat) ^ (7 * (k + 1)) = 128 * 2 ^ (7 * k) := by rw [show 7 * (k + 1) = 7 * k + 7 by omega, Nat.pow_add, Nat.mul_comm]
  rw [Nat.add_mul] at h1
  omega
theorem drop_cons' (l : List UInt8) (k : Nat) (hk : k < l.length) : l.drop k = l.getD k 0 :: l.drop (k + 1) := by
  rw [List.drop_eq_getElem_cons hk]; simp [List.getD, hk]

set_option maxRecDepth 100000 in
set_option maxHeartbeats 400000 in
theorem first_any (v : Value) (l : List UInt8) (b : Nat) (w : World) (hv : Bs w b v l) (hl : l.length ≤ 1000000000) :
    Calls Try.prog 26 #[v] w (Told w (rdF 0 0 l)) := by
  obtain ⟨A, cap, rfl, hc, hm, hcells⟩ := hv
  go_enter Try.func26, Try.ntmps26
  go_wp2
  go_step3
  go_wp2
  go_step3
  go_wp2
  go_loop [5, 6, 7, 12] (fun x sz er i => ∃ k X : Nat, k ≤ l.length ∧ k ≤ 9 ∧ i = .int .i64 k ∧ x = .int .u64 X ∧ sz = .int .i64 0 ∧ er = .int .i64 5 ∧ Hid (X < 2 ^ (7 * k)) ∧ Hid (rdF 0 0 l = rdF X k (l.drop k))) (fun _ _ _ i => l.length - (intOf i).toNat)
  case atStart => exact ⟨0, 0, Nat.zero_le _, by omega, rfl, rfl, rfl, rfl, by show _ < _; decide, rfl⟩
  case round =>
    obtain ⟨k, X, hk, hk9, rfl, rfl, rfl, rfl, hX, hr⟩ := hrel
    by_cases hlt : k < l.length
    · rcases hcells with rfl | ⟨off, rfl, _, hcell⟩
      · simp at hlt
      have hck := hcell k _ (cellsB_get l k hlt)
      obtain ⟨c, hcc⟩ : ∃ c : UInt8, l.getD k 0 = c := ⟨_, rfl⟩
      have hsn := drop_cons' l k hlt
      rw [hcc] at hsn hck
      have HS := Lib.hid hsn
      clear hcell hcc hsn
      have hcb := c.toNat_lt
      by_cases h1 : k = 9 ∧ 1 < c.toNat
      · have hf : Hid (rdF 0 0 l = (0, 0, 4)) := by show _ = _; rw [hr.out, HS.out, rdF, if_pos h1]
        obtain ⟨rfl, h1'⟩ := h1
        go_wp2
        go_ret3
        exact ⟨_, _, by rw [hf.out]; rfl, by rw [hf.out]; simp, rfl⟩
      have hacc := Lib.hid (acc_form X k c hX.out hk9 (by omega))
      by_cases h2 : 0 < k ∧ c.toNat = 0
      · have hf : Hid (rdF 0 0 l = (0, 0, 4)) := by show _ = _; rw [hr.out, HS.out, rdF, if_neg h1, if_pos h2]
        obtain ⟨h2a, h2b⟩ := h2
        have h2c : (((c.toNat : Int)) == 0) = true := beq_iff_eq.2 (by omega)
        go_wp2
        all_goals
          go_ret3
          exact ⟨_, _, by rw [hf.out]; rfl, by rw [hf.out]; simp, rfl⟩
      have h2c : 0 < k → (((c.toNat : Int)) == 0) = false := fun h => beq_eq_false_iff_ne.2 (by omega)
      by_cases h3 : c.toNat < 128
      · have hf : Hid (rdF 0 0 l = (X + c.toNat % 128 * 2 ^ (7 * k), k + 1, 0)) := by show _ = _; rw [hr.out, HS.out, rdF, if_neg h1, if_neg h2, if_pos h3]
        by_cases h9 : (k : Int) = 9
        · have hc1 : (c.toNat : Int) ≤ 1 := by omega
          have h2d := h2c (by omega)
          have hkp : 0 < k := by omega
          have h9' : ((k : Int) == 9) = true := beq_iff_eq.2 h9
          have H9 := Lib.hid h9
          clear h9 h1 h2 h2c
          go_wp2
          go_ret3
          exact ⟨_, _, by rw [hf.out]; rfl, by rw [hf.out]; exact fun _ => ⟨hacc.out, by simp⟩, rfl⟩
        · have h9' : ((k : Int) == 9) = false := beq_eq_false_iff_ne.2 h9
          by_cases hkp : 0 < k
          · have h2d := h2c (by omega)
            clear h9 h1 h2 h2c
            go_wp2
            go_ret3
            exact ⟨_, _, by rw [hf.out]; rfl, by rw [hf.out]; exact fun _ => ⟨hacc.out, by simp⟩, rfl⟩
          · clear h9 h1 h2 h2c
            go_wp2
            go_ret3
            exact ⟨_, _, by rw [hf.out]; rfl, by rw [hf.out]; exact fun _ => ⟨hacc.out, by simp⟩, rfl⟩
      · have hf : Hid (rdF 0 0 l = rdF (X + c.toNat % 128 * 2 ^ (7 * k)) (k + 1) (l.drop (k + 1))) := by show _ = _; rw [hr.out, HS.out, rdF, if_neg h1, if_neg h2, if_neg h3]
        have h9' : ((k : Int) == 9) = false := beq_eq_false_iff_ne.2 (by omega)
        have hlt' : Hid (X + c.toNat % 128 * 2 ^ (7 * k) < 2 ^ (7 * (k + 1))) := acc_lt X k c.toNat hX.out
        have hk8 : k ≤ 8 := by omega
        by_cases hkp : 0 < k
        all_goals
          have h2d := h2c
          clear h1 h2 h2c
          go_wp2
          go_round
          case rel => exact ⟨k + 1, _, by omega, by omega, by go_num, by rw [hacc.out], rfl, rfl, hlt', hf⟩
          case measure => simp [intOf]; omega
    · have hf : Hid (rdF 0 0 l = (0, 0, 5)) := by show _ = _; rw [hr.out, List.drop_eq_nil_of_le (by omega)]; rfl
      go_wp2
      go_ret3
      exact ⟨_, _, by rw [hf.out]; rfl, by rw [hf.out]; simp, rfl⟩
end Go.Proofs.Ytnnimiemmgakcaa
