/- A change of bits within 32 that stand side by side changes the sum: plain mathematics over XCrc. -/
import Derived.Test.YtnnimiemmgakcaaCrc
namespace Go.Proofs.Ytnnimiemmgakcaa

/-- the bytes as one number, the first byte lowest -/
def big : List UInt8 → Nat
  | [] => 0
  | b :: r => b.toNat ^^^ big r * 2 ^ 8

theorem crcL_big : ∀ (l : List UInt8) (c : Nat), crcL c l = stN (8 * l.length) (c ^^^ big l)
  | [], c => by simp [crcL, big, stN]
  | b :: r, c => by
    have h : crcL c (b :: r) = crcL (crcB c b) r := rfl
    rw [h, crcL_big r]
    have e1 : stN 8 (big r * 2 ^ 8) = big r := stN_shift 8 (big r)
    have e2 : crcB c b ^^^ big r = stN 8 (c ^^^ (b.toNat ^^^ big r * 2 ^ 8)) := by
      rw [← Nat.xor_assoc, stN_xor, e1]; rfl
    rw [e2, ← stN_add]
    congr 1
    simp; omega

theorem crcL_ne {l m : List UInt8} {ch k : Nat} (hlen : l.length = m.length) (hb : big m = big l ^^^ ch * 2 ^ k) (hk : k ≤ 8 * l.length) (h0 : ch ≠ 0) (h32 : ch < 2 ^ 32) (c : Nat) :
    crcL c m ≠ crcL c l := by
  intro he
  rw [crcL_big, crcL_big, ← hlen, hb, ← Nat.xor_assoc, stN_xor] at he
  have h1 : stN (8 * l.length) (ch * 2 ^ k) = 0 := by
    have := congrArg (stN (8 * l.length) (c ^^^ big l) ^^^ ·) he
    simpa only [← Nat.xor_assoc, Nat.xor_self, Nat.zero_xor] using this
  have h2 : stN (8 * l.length) (ch * 2 ^ k) = stN (8 * l.length - k) ch := by
    rw [show 8 * l.length = k + (8 * l.length - k) by omega, stN_add, stN_shift]
    congr 1; omega
  rw [h2] at h1
  exact stN_ne _ h32 h0 h1

theorem sumL_ne {l m : List UInt8} {ch k : Nat} (hlen : l.length = m.length) (hb : big m = big l ^^^ ch * 2 ^ k) (hk : k ≤ 8 * l.length) (h0 : ch ≠ 0) (h32 : ch < 2 ^ 32) : sumL m ≠ sumL l := by
  intro he
  have := congrArg (ones ^^^ ·) he
  simp only [sumL, ← Nat.xor_assoc, Nat.xor_self, Nat.zero_xor] at this
  exact crcL_ne hlen hb hk h0 h32 ones this

theorem big_set : ∀ (l : List UInt8) (q r : Nat) (u : UInt8), q < l.length → u.toNat = (l.getD q 0).toNat ^^^ 2 ^ r → big (l.set q u) = big l ^^^ 2 ^ (8 * q + r)
  | [], _, _, _, h, _ => by simp at h
  | b :: t, 0, r, u, _, hu => by
    simp only [List.set_cons_zero, big]
    have hu' : u.toNat = b.toNat ^^^ 2 ^ r := by simpa using hu
    rw [hu', Nat.mul_zero, Nat.zero_add, Nat.xor_assoc, Nat.xor_assoc, Nat.xor_comm (2 ^ r)]
  | b :: t, q + 1, r, u, hq, hu => by
    simp only [List.set_cons_succ, big]
    rw [big_set t q r u (by simpa using hq) (by simpa using hu)]
    have e1 : (big t ^^^ 2 ^ (8 * q + r)) * 2 ^ 8 = big t * 2 ^ 8 ^^^ 2 ^ (8 * (q + 1) + r) := by
      have e2 : 2 ^ (8 * (q + 1) + r) = 2 ^ (8 * q + r) * 2 ^ 8 := by rw [← Nat.pow_add]; congr 1; omega
      rw [e2]
      apply Nat.eq_of_testBit_eq
      intro i
      simp only [Nat.testBit_xor, Nat.testBit_mul_two_pow]
      by_cases hi : 8 ≤ i <;> simp [hi]
    rw [e1, Nat.xor_assoc]

/-- the lowest i + 1 bits of ch: the lowest i, and the next one -/
theorem low_succ (ch i : Nat) (h : ch / 2 ^ i % 2 = 1) (k : Nat) : ch % 2 ^ (i + 1) * 2 ^ k = ch % 2 ^ i * 2 ^ k ^^^ 2 ^ (k + i) := by
  have e2 : 2 ^ (k + i) = 2 ^ i * 2 ^ k := by rw [← Nat.pow_add]; congr 1; omega
  rw [e2]
  have hbit : ch.testBit i = true := by rw [Nat.testBit_eq_decide_div_mod_eq]; simpa using h
  apply Nat.eq_of_testBit_eq
  intro j
  simp only [Nat.testBit_xor, Nat.testBit_mul_two_pow, Nat.testBit_mod_two_pow, Nat.testBit_two_pow]
  by_cases hj : k ≤ j
  · by_cases h1 : j - k < i
    · simp [hj, h1, show j - k < i + 1 by omega, show ¬ i = j - k by omega]
    · by_cases h2 : j - k = i
      · simp [hj, h2, hbit]
      · simp [h1, show ¬ j - k < i + 1 by omega, show ¬ i = j - k by omega]
  · simp [hj]
theorem low_same (ch i : Nat) (h : ¬ ch / 2 ^ i % 2 = 1) : ch % 2 ^ (i + 1) = ch % 2 ^ i := by
  have hbit : ch.testBit i = false := by rw [Nat.testBit_eq_decide_div_mod_eq]; simpa using h
  apply Nat.eq_of_testBit_eq
  intro j
  simp only [Nat.testBit_mod_two_pow]
  by_cases h1 : j < i
  · simp [h1, show j < i + 1 by omega]
  · by_cases h2 : j = i
    · subst h2; simp [hbit]
    · simp [h1, show ¬ j < i + 1 by omega]
end Go.Proofs.Ytnnimiemmgakcaa
