/- CRC-32 as plain mathematics: the step, by bits and by a table; a change of bits within 32 that stand side by side changes the sum. Of no program. -/
import Derived.Laws.BitsAllLaws
namespace Go.Proofs.Ytnnimiemmgakcaa

def poly : Nat := 3988292384
/-- one bit of the register -/
def st (c : Nat) : Nat := if c % 2 = 1 then c / 2 ^^^ poly else c / 2
def stN : Nat → Nat → Nat
  | 0, c => c
  | n + 1, c => stN n (st c)
def crcB (c : Nat) (b : UInt8) : Nat := stN 8 (c ^^^ b.toNat)
def crcL (c : Nat) (l : List UInt8) : Nat := l.foldl crcB c
def ones : Nat := 4294967295
def sumL (l : List UInt8) : Nat := ones ^^^ crcL ones l

theorem poly_lt : poly < 2 ^ 32 := by decide
theorem st_lt {c : Nat} (h : c < 2 ^ 32) : st c < 2 ^ 32 := by
  unfold st
  split
  · exact Nat.xor_lt_two_pow (by omega) poly_lt
  · omega
theorem stN_lt : ∀ (n : Nat) {c : Nat}, c < 2 ^ 32 → stN n c < 2 ^ 32
  | 0, _, h => h
  | n + 1, _, h => stN_lt n (st_lt h)
theorem stN_succ : ∀ (n c : Nat), stN (n + 1) c = st (stN n c)
  | 0, _ => rfl
  | n + 1, c => by rw [stN, stN_succ n (st c), stN]
theorem stN_add : ∀ (m n c : Nat), stN (m + n) c = stN n (stN m c)
  | 0, n, c => by rw [Nat.zero_add]; rfl
  | m + 1, n, c => by rw [show m + 1 + n = (m + n) + 1 by omega, stN, stN_add m n, stN]
theorem crcB_lt {c : Nat} (h : c < 2 ^ 32) (b : UInt8) : crcB c b < 2 ^ 32 :=
  stN_lt 8 (Nat.xor_lt_two_pow h (by have := b.toNat_lt; omega))
theorem crcL_lt : ∀ (l : List UInt8) {c : Nat}, c < 2 ^ 32 → crcL c l < 2 ^ 32
  | [], _, h => h
  | b :: l, _, h => crcL_lt l (crcB_lt h b)
theorem sumL_lt (l : List UInt8) : sumL l < 2 ^ 32 := Nat.xor_lt_two_pow (by decide) (crcL_lt l (by decide))
theorem crcL_snoc (c : Nat) (l : List UInt8) (b : UInt8) : crcL c (l ++ [b]) = crcB (crcL c l) b := by simp [crcL]
theorem crcL_app (c : Nat) (l m : List UInt8) : crcL c (l ++ m) = crcL (crcL c l) m := by simp [crcL]

theorem xor_mod2 (a b : Nat) : (a ^^^ b) % 2 = (a % 2 + b % 2) % 2 := by
  have h := Nat.xor_mod_two_pow (a := a) (b := b) (n := 1)
  simp only [Nat.pow_one] at h
  rw [h]
  have ha := Nat.mod_two_eq_zero_or_one a
  have hb := Nat.mod_two_eq_zero_or_one b
  rcases ha with ha | ha <;> rcases hb with hb | hb <;> simp [ha, hb]
theorem xor_div2 (a b : Nat) : (a ^^^ b) / 2 = a / 2 ^^^ b / 2 := by
  have h := Nat.xor_div_two_pow (a := a) (b := b) (n := 1)
  simpa using h

/-- the step is linear -/
theorem st_xor (a b : Nat) : st (a ^^^ b) = st a ^^^ st b := by
  unfold st
  rw [xor_mod2, xor_div2]
  have ha := Nat.mod_two_eq_zero_or_one a
  have hb := Nat.mod_two_eq_zero_or_one b
  rcases ha with ha | ha <;> rcases hb with hb | hb <;> simp [ha, hb]
  · rw [Nat.xor_assoc]
  · rw [Nat.xor_assoc, Nat.xor_assoc, Nat.xor_comm poly]
  · rw [Nat.xor_assoc, Nat.xor_comm poly, Nat.xor_assoc, Nat.xor_self, Nat.xor_zero]
theorem stN_xor : ∀ (n a b : Nat), stN n (a ^^^ b) = stN n a ^^^ stN n b
  | 0, _, _ => rfl
  | n + 1, a, b => by rw [stN, st_xor, stN_xor n, stN, stN]
theorem st_zero : st 0 = 0 := rfl
theorem stN_zero : ∀ n, stN n 0 = 0
  | 0 => rfl
  | n + 1 => by rw [stN, st_zero, stN_zero n]
/-- n steps over a number whose lowest n bits are none only shift it -/
theorem stN_shift : ∀ (n c : Nat), stN n (c * 2 ^ n) = c
  | 0, c => by simp [stN]
  | n + 1, c => by
    have h : st (c * 2 ^ (n + 1)) = c * 2 ^ n := by
      unfold st
      rw [Nat.pow_succ, ← Nat.mul_assoc]
      rw [if_neg (by omega)]
      omega
    rw [stN, h, stN_shift n]

/-- by a table: eight steps of a number are its upper bits, and eight steps of its lowest byte -/
theorem st8_split (c : Nat) : stN 8 c = c / 256 ^^^ stN 8 (c % 256) := by
  have h : c = (c / 256) * 2 ^ 8 ^^^ c % 256 := by
    have h1 : (c / 256) * 2 ^ 8 ||| c % 256 = (c / 256) * 2 ^ 8 + c % 256 := nat_join 8 _ _ (by omega) (by omega)
    have h2 : (c / 256) * 2 ^ 8 ^^^ c % 256 = (c / 256) * 2 ^ 8 ||| c % 256 := by
      apply Nat.eq_of_testBit_eq
      intro i
      rw [Nat.testBit_xor, Nat.testBit_or]
      have e256 : (256 : Nat) = 2 ^ 8 := rfl
      rw [Nat.testBit_mul_two_pow, e256, Nat.testBit_mod_two_pow]
      by_cases hi : i < 8
      · simp [hi, show ¬ 8 ≤ i by omega]
      · simp [hi]
    rw [h2, h1]; omega
  have h3 : stN 8 c = stN 8 ((c / 256) * 2 ^ 8 ^^^ c % 256) := by rw [← h]
  rw [h3, stN_xor, stN_shift]
theorem crcB_table (c : Nat) (b : UInt8) : c / 256 ^^^ stN 8 ((c % 256) ^^^ b.toNat) = crcB c b := by
  have hb := b.toNat_lt
  unfold crcB
  rw [st8_split (c ^^^ b.toNat)]
  have e256 : (256 : Nat) = 2 ^ 8 := rfl
  have h1 : (c ^^^ b.toNat) / 256 = c / 256 := by
    rw [e256, Nat.xor_div_two_pow, Nat.div_eq_of_lt (show b.toNat < 2 ^ 8 by omega), Nat.xor_zero]
  have h2 : (c ^^^ b.toNat) % 256 = c % 256 ^^^ b.toNat := by
    rw [e256, Nat.xor_mod_two_pow, Nat.mod_eq_of_lt (show b.toNat < 2 ^ 8 by omega)]
  rw [h1, h2]

/-- the step keeps what is not none apart from none -/
theorem st_ne {c : Nat} (h : c < 2 ^ 32) (h0 : c ≠ 0) : st c ≠ 0 := by
  unfold st
  split
  · intro he
    have h1 : c / 2 = poly := by
      have := congrArg (· ^^^ poly) he
      simp only [Nat.xor_assoc, Nat.xor_self, Nat.xor_zero, Nat.zero_xor] at this
      exact this
    have : poly = 3988292384 := rfl
    omega
  · omega
theorem stN_ne : ∀ (n : Nat) {c : Nat}, c < 2 ^ 32 → c ≠ 0 → stN n c ≠ 0
  | 0, _, _, h => h
  | n + 1, _, h, h0 => stN_ne n (st_lt h) (st_ne h h0)
theorem xor_ne {a b : Nat} (h : a ≠ b) : a ^^^ b ≠ 0 := fun e => h (by
  have := congrArg (· ^^^ b) e
  simp only [Nat.xor_assoc, Nat.xor_self, Nat.xor_zero, Nat.zero_xor] at this
  exact this)
theorem eq_of_xor {a b : Nat} (h : a ^^^ b = 0) : a = b := by
  by_cases e : a = b
  · exact e
  · exact absurd h (xor_ne e)
end Go.Proofs.Ytnnimiemmgakcaa
