/- What is put together is read again: plain mathematics over the reader's functions. -/
import Derived.Test.YtnnimiemmgakcaaRdp
namespace Go.Proofs.Ytnnimiemmgakcaa

theorem rdF_uv : ∀ (n : Nat) (x i : Nat) (rest : List UInt8), i ≤ 9 → n * 2 ^ (7 * i) < 18446744073709551616 → (0 < i → 0 < n) → rdF x i (Lib.uvarint n ++ rest) = (x + n * 2 ^ (7 * i), i + szN n, 0) := by
  intro n
  induction n using Nat.strongRecOn with
  | ind n ih =>
    intro x i rest hi hlt hpos
    have hp : 0 < 2 ^ (7 * i) := Nat.pow_pos (by decide)
    by_cases hs : n < 128
    · rw [Lib.uvarint_small hs, szN_small hs]
      show rdF x i (n.toUInt8 :: rest) = _
      have hc : (n.toUInt8).toNat = n := by simp [Nat.toUInt8]; omega
      rw [rdF, hc]
      have h1 : ¬ (i = 9 ∧ 1 < n) := by
        rintro ⟨rfl, h⟩
        have h2 : (2 : Nat) ^ (7 * 9) = 9223372036854775808 := rfl
        rw [h2] at hlt
        omega
      have h2 : ¬ (0 < i ∧ n = 0) := by rintro ⟨h, rfl⟩; exact absurd (hpos h) (by omega)
      rw [if_neg h1, if_neg h2, if_pos hs, Nat.mod_eq_of_lt hs]
    · have hb : 128 ≤ n := by omega
      rw [Lib.uvarint_big hb, szN_big hb]
      show rdF x i ((n % 128 + 128).toUInt8 :: (Lib.uvarint (n / 128) ++ rest)) = _
      have hc : ((n % 128 + 128).toUInt8).toNat = n % 128 + 128 := by simp [Nat.toUInt8]; omega
      rw [rdF, hc]
      have hi8 : i ≤ 8 := by
        by_cases h9 : i = 9
        · subst h9
          have h2 : (2 : Nat) ^ (7 * 9) = 9223372036854775808 := rfl
          rw [h2] at hlt
          omega
        · omega
      rw [if_neg (by omega), if_neg (by omega), if_neg (by omega)]
      have e1 : (2 : Nat) ^ (7 * (i + 1)) = 128 * 2 ^ (7 * i) := by rw [show 7 * (i + 1) = 7 * i + 7 by omega, Nat.pow_add, Nat.mul_comm]
      have e2 : n / 128 * (128 * 2 ^ (7 * i)) + n % 128 * 2 ^ (7 * i) = n * 2 ^ (7 * i) := by
        rw [← Nat.mul_assoc, ← Nat.add_mul]; congr 1; omega
      rw [ih (n / 128) (by omega) _ (i + 1) rest (by omega) (by rw [e1]; omega) (fun _ => by omega), e1]
      have e3 : (n % 128 + 128) % 128 = n % 128 := by omega
      rw [e3]
      simp only [Prod.mk.injEq, and_true]
      exact ⟨by omega, by omega⟩

theorem rdNum_uv {n : Nat} (h : U64 n) (rest : List UInt8) : rdNum (Lib.uvarint n ++ rest) 0 = (n, rest, 0) := by
  unfold U64 at h
  have := rdF_uv n 0 0 rest (by decide) (by simpa using h) (by simp)
  simp only [Nat.zero_add, Nat.mul_zero, Nat.pow_zero, Nat.mul_one] at this
  unfold rdNum
  rw [this]
  simp [szN]

theorem rdPiece_uv {p : List UInt8} (h : p.length ≤ 100) (rest : List UInt8) : rdPiece (Lib.uvarint p.length ++ (p ++ rest)) 0 = (p, rest, 0) := by
  have := rdF_uv p.length 0 0 (p ++ rest) (by decide) (by omega) (by simp)
  simp only [Nat.zero_add, Nat.mul_zero, Nat.pow_zero, Nat.mul_one] at this
  have hs : (Lib.uvarint p.length).length = 1 := szN_small (by omega)
  have hP : rdP (Lib.uvarint p.length ++ (p ++ rest)) = (p, 1 + p.length, 0) := by
    unfold rdP
    rw [this, szN_small (by omega)]
    rw [if_neg (by simp), if_neg (by show ¬ _ < p.length; omega), if_neg (by simp [hs])]
    simp only [Prod.mk.injEq, and_true]
    rw [← hs, List.drop_left, List.take_left]
  unfold rdPiece
  rw [hP, if_neg (by simp), if_neg (by simp)]
  have : (Lib.uvarint p.length ++ (p ++ rest)).drop (1 + p.length) = rest := by
    rw [← List.append_assoc]
    apply List.drop_left'
    simp [hs]
  simp [this]

/-- a piece that lacks its last byte -/
theorem rdPiece_cut {p : List UInt8} (h : p.length ≤ 100) : rdPiece ((Lib.uvarint p.length ++ p).dropLast) 0 = ([], (Lib.uvarint p.length ++ p).dropLast, 5) := by
  have hu : Lib.uvarint p.length = [p.length.toUInt8] := Lib.uvarint_small (by omega)
  by_cases hp : p = []
  · subst hp
    rw [hu]
    rfl
  · have hd : (Lib.uvarint p.length ++ p).dropLast = Lib.uvarint p.length ++ p.dropLast := by
      rw [hu]
      cases p with
      | nil => exact absurd rfl hp
      | cons a r => simp
    have := rdF_uv p.length 0 0 p.dropLast (by decide) (by omega) (by simp)
    simp only [Nat.zero_add, Nat.mul_zero, Nat.pow_zero, Nat.mul_one] at this
    have hl : 0 < p.length := by cases p with | nil => exact absurd rfl hp | cons a r => simp
    have hP : rdP (Lib.uvarint p.length ++ p.dropLast) = ([], 0, 5) := by
      unfold rdP
      rw [this, szN_small (by omega)]
      rw [if_neg (by simp), if_neg (by show ¬ _ < p.length; omega), if_pos (by rw [hu]; simp; omega)]
    rw [hd]
    unfold rdPiece
    rw [hP]
    simp

/-- a number and a text, as they are put -/
def enc1 (it : Nat × List UInt8) : List UInt8 := Lib.uvarint it.1 ++ (Lib.uvarint it.2.length ++ it.2)
def encs (its : List (Nat × List UInt8)) : List UInt8 := its.flatMap enc1
theorem encs_cons (it : Nat × List UInt8) (r : List (Nat × List UInt8)) : encs (it :: r) = enc1 it ++ encs r := by simp [encs]
theorem encs_snoc (r : List (Nat × List UInt8)) (it : Nat × List UInt8) : encs (r ++ [it]) = encs r ++ enc1 it := by simp [encs]
theorem enc1_ne (it : Nat × List UInt8) : enc1 it ≠ [] := by
  intro h
  have h1 := congrArg List.length h
  have := Lib.uvarint_pos it.1
  simp only [enc1, List.length_append, List.length_nil] at h1
  omega
theorem encs_ne {its : List (Nat × List UInt8)} (h : its ≠ []) : encs its ≠ [] := by
  cases its with
  | nil => exact absurd rfl h
  | cons a r => rw [encs_cons]; simp [enc1_ne]
theorem enc1_len {it : Nat × List UInt8} (h : U64 it.1) (h2 : it.2.length ≤ 100) : (enc1 it).length ≤ 120 := by
  have h1 : (Lib.uvarint it.1).length ≤ 10 := szN_le h
  have h3 : (Lib.uvarint it.2.length).length ≤ 10 := szN_le (by unfold U64; omega)
  simp only [enc1, List.length_append]
  omega
theorem encs_len : ∀ {its : List (Nat × List UInt8)}, (∀ it ∈ its, U64 it.1 ∧ it.2.length ≤ 100) → (encs its).length ≤ its.length * 120
  | [], _ => by simp [encs]
  | it :: r, h => by
    rw [encs_cons, List.length_append, List.length_cons]
    have h1 := h it (by simp)
    have := enc1_len h1.1 h1.2
    have := encs_len (its := r) (fun x hx => h x (by simp [hx]))
    omega

/-- one turn of reading, with nothing lacking -/
theorem turn_ok {it : Nat × List UInt8} (h : U64 it.1) (h2 : it.2.length ≤ 100) (rest : List UInt8) :
    rdNum (enc1 it ++ rest) 0 = (it.1, Lib.uvarint it.2.length ++ (it.2 ++ rest), 0) ∧ rdPiece (Lib.uvarint it.2.length ++ (it.2 ++ rest)) 0 = (it.2, rest, 0) := by
  refine ⟨?_, rdPiece_uv h2 rest⟩
  have := rdNum_uv h (Lib.uvarint it.2.length ++ (it.2 ++ rest))
  simpa [enc1] using this
theorem drop_enc1 (it : Nat × List UInt8) : (enc1 it).dropLast = Lib.uvarint it.1 ++ (Lib.uvarint it.2.length ++ it.2).dropLast := by
  unfold enc1
  apply List.dropLast_append_of_ne_nil
  intro h
  have h1 := congrArg List.length h
  have := Lib.uvarint_pos it.2.length
  simp only [List.length_append, List.length_nil] at h1
  omega
theorem drop_encs (it : Nat × List UInt8) {r : List (Nat × List UInt8)} (h : r ≠ []) : (encs (it :: r)).dropLast = enc1 it ++ (encs r).dropLast := by
  rw [encs_cons]
  exact List.dropLast_append_of_ne_nil (encs_ne h)
theorem rd_err (l : List UInt8) (n : Nat) (h : n ≠ 0) : rdNum l n = (0, l, n) ∧ rdPiece l n = ([], l, n) := ⟨by simp [rdNum, h], by simp [rdPiece, h]⟩

/-- what the reader of the shortened bytes has, ahead of the k-th turn: it goes on, or it has its error -/
def Cut (its : List (Nat × List UInt8)) (k : Nat) (l : List UInt8) (n : Nat) : Prop := (n = 5 ∧ l.length ≤ 7000) ∨ (n = 0 ∧ k < its.length ∧ l = (encs (its.drop k)).dropLast)
theorem Cut.turn {its : List (Nat × List UInt8)} (hall : ∀ it ∈ its, U64 it.1 ∧ it.2.length ≤ 100) (h50 : its.length ≤ 50) {k : Nat} (hk : k < its.length) {l : List UInt8} {n : Nat} (h : Cut its k l n) :
    Cut its (k + 1) (rdPiece (rdNum l n).2.1 (rdNum l n).2.2).2.1 (rdPiece (rdNum l n).2.1 (rdNum l n).2.2).2.2 ∧ (rdNum l n).2.1.length ≤ 7000 := by
  rcases h with ⟨rfl, hl⟩ | ⟨rfl, _, rfl⟩
  · have := rd_err l 5 (by decide)
    rw [this.1]
    have := rd_err l 5 (by decide)
    rw [this.2]
    exact ⟨.inl ⟨rfl, hl⟩, hl⟩
  · have hit := hall its[k] (List.getElem_mem hk)
    rw [List.drop_eq_getElem_cons hk]
    by_cases hr : its.drop (k + 1) = []
    · rw [hr]
      have e1 : encs [its[k]] = enc1 its[k] := by simp [encs]
      rw [e1, drop_enc1, rdNum_uv hit.1, rdPiece_cut hit.2]
      have hl : (Lib.uvarint its[k].2.length ++ its[k].2).dropLast.length ≤ 7000 := by
        have h3 : (Lib.uvarint its[k].2.length).length ≤ 10 := szN_le (by unfold U64; omega)
        simp
        omega
      exact ⟨.inl ⟨rfl, hl⟩, hl⟩
    · rw [drop_encs _ hr, (turn_ok hit.1 hit.2 _).1, (turn_ok hit.1 hit.2 _).2]
      refine ⟨.inr ⟨rfl, ?_, rfl⟩, ?_⟩
      · rcases Nat.lt_or_ge (k + 1) its.length with h | h
        · exact h
        · exact absurd (List.drop_eq_nil_of_le h) hr
      · have h3 : (Lib.uvarint its[k].2.length).length ≤ 10 := szN_le (by unfold U64; omega)
        have h4 := encs_len (its := its.drop (k + 1)) (fun x hx => hall x (List.mem_of_mem_drop hx))
        have h5 : (its.drop (k + 1)).length ≤ 50 := by simp; omega
        simp
        omega
end Go.Proofs.Ytnnimiemmgakcaa
