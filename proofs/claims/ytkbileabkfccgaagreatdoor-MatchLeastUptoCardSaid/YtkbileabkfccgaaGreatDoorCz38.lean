/- MlA, MlB, MlC, MlD, merged. -/
import Derived.Test.YtkbileabkfccgaaGreatDoorCz12
import Derived.Test.YtkbileabkfccgaaGreatDoorCz16
import Derived.Test.YtkbileabkfccgaaGreatDoorCz15
import Derived.Test.YtkbileabkfccgaaGreatDoorCz17

/- match: an expression written behind another frame: it is the same, moved. Of no program. -/
namespace Go.Proofs.YtkbileabkfccgaaGreatDoor
open Go.RowKit

/-! ## an expression, written behind another frame -/
def shP (m : Nat) (p : Pa) : Pa := ⟨p.f <<< m, p.l <<< m, p.e⟩
def shF (f g : Fm) : Fm := ⟨f.ns ++ g.ns, f.bh ++ g.bh.map (· <<< f.ns.length)⟩
theorem shl_lt {x n m : Nat} (h : x < 2 ^ n) : x <<< m < 2 ^ (m + n) := by
  rw [Nat.shiftLeft_eq, Nat.add_comm, Nat.pow_add]
  exact Nat.mul_lt_mul_of_pos_right h (Nat.two_pow_pos m)
theorem bits_shl {a k m : Nat} (ha : a < 2 ^ k) (hm : m + k ≤ 25) : bitsN (a <<< m) = (bitsN a).map (m + ·) := by
  have e1 : List.range 25 = List.range m ++ (List.range (25 - m)).map (m + ·) := by rw [← List.range_add]; congr 1; omega
  have e2 : bitsN a = (List.range (25 - m)).filter fun i => a.testBit i := by
    unfold bitsN
    have : List.range 25 = List.range (25 - m) ++ (List.range m).map (25 - m + ·) := by rw [← List.range_add]; congr 1; omega
    rw [this, List.filter_append]
    have h0 : (((List.range m).map (25 - m + ·)).filter fun i => a.testBit i) = [] := by
      rw [List.filter_eq_nil_iff]
      intro i hi
      obtain ⟨j, _, rfl⟩ := List.mem_map.1 hi
      rw [Nat.testBit_lt_two_pow (Nat.lt_of_lt_of_le ha (Nat.pow_le_pow_right (by decide) (by omega)))]
      simp
    rw [h0, List.append_nil]
  rw [e2]
  unfold bitsN
  rw [e1, List.filter_append]
  have h0 : ((List.range m).filter fun i => (a <<< m).testBit i) = [] := by
    rw [List.filter_eq_nil_iff]
    intro i hi
    rw [List.mem_range] at hi
    rw [Nat.testBit_shiftLeft]
    simp; omega
  rw [h0, List.nil_append, List.filter_map]
  congr 1
  refine List.filter_congr fun i _ => ?_
  show (a <<< m).testBit (m + i) = _
  rw [Nat.testBit_shiftLeft]
  have : m + i - m = i := by omega
  rw [this]; simp
theorem getD_shl (l : List Nat) (m i : Nat) : (l.map (· <<< m)).getD i 0 = (l.getD i 0) <<< m := by
  rw [List.getD_eq_getElem?_getD, List.getD_eq_getElem?_getD, List.getElem?_map]
  cases l[i]? <;> simp
theorem orAt_sh (fb b : List Nat) (t m i : Nat) (hf : fb.length = m) : orAt (t <<< m) (fb ++ b.map (· <<< m)) (m + i) = fb ++ (orAt t b i).map (· <<< m) := by
  unfold orAt
  have e : (fb ++ b.map (· <<< m)).getD (m + i) 0 = (b.getD i 0) <<< m := by
    rw [← getD_shl, List.getD_eq_getElem?_getD, List.getD_eq_getElem?_getD, List.getElem?_append_right (by omega)]
    congr 2; omega
  rw [e, ← Nat.shiftLeft_or_distrib, List.set_append_right _ _ (by omega), List.map_set]
  congr 2; omega
theorem orAts_sh (fb : List Nat) (t m : Nat) (hf : fb.length = m) : ∀ (l b : List Nat), (l.map (m + ·)).foldl (orAt (t <<< m)) (fb ++ b.map (· <<< m)) = fb ++ (l.foldl (orAt t) b).map (· <<< m)
  | [], b => rfl
  | i :: l, b => by rw [List.map_cons, List.foldl_cons, List.foldl_cons, orAt_sh fb b t m i hf, orAts_sh fb t m hf l]
section
variable {f g : Fm} (hf : f.bh.length = f.ns.length)
include hf
theorem link_sh {a t k : Nat} (ha : a < 2 ^ k) (hk : f.ns.length + k ≤ 25) : linkM (shF f g) (a <<< f.ns.length) (t <<< f.ns.length) = shF f (linkM g a t) := by
  unfold linkM shF
  rw [bits_shl ha hk]
  simp only
  rw [orAts_sh f.bh t f.ns.length hf]
theorem join_sh {a b : Pa} {k : Nat} (ha : a.l < 2 ^ k) (hk : f.ns.length + k ≤ 25) : joinM (shF f g) (shP f.ns.length a) (shP f.ns.length b) = (shF f (joinM g a b).1, shP f.ns.length (joinM g a b).2) := by
  obtain ⟨af, al, ae⟩ := a
  obtain ⟨bf, bl, be⟩ := b
  unfold joinM
  simp only [shP]
  rw [link_sh hf ha hk]
  cases ae <;> cases be <;> simp [Nat.shiftLeft_or_distrib]
omit hf in
theorem spot_sh (n : ByteArray) : spotM (shF f g) n = (shF f (spotM g n).1, shP f.ns.length (spotM g n).2) := by
  unfold spotM shF shP
  have e : (2 : Nat) ^ (f.ns.length + g.ns.length) = (2 ^ g.ns.length) <<< f.ns.length := by rw [Nat.shiftLeft_eq, Nat.pow_add, Nat.mul_comm]
  simp [List.length_append, e]
/-- a way of writing does the same behind another frame -/
def Moves (f : Fm) (d : Nat) (r : Fm → Fm × Pa) : Prop := ∀ g, FOk g → f.ns.length + g.ns.length + d ≤ 25 → r (shF f g) = (shF f (r g).1, shP f.ns.length (r g).2)
omit hf in
theorem shP_nil (m : Nat) (e : Bool) : shP m ⟨0, 0, e⟩ = ⟨0, 0, e⟩ := by simp [shP]
theorem rep_sh {r : Fm → Fm × Pa} {d : Nat} (hr : Moves f d r) (hg : ∀ f, FOk f → GoodW d f (r f)) (opt : Bool) : ∀ (n : Nat) (all : Pa) (g : Fm), FOk g → POk g.ns.length all → f.ns.length + g.ns.length + n * d ≤ 25 →
    repM r opt n (shP f.ns.length all) (shF f g) = (shF f (repM r opt n all g).1, shP f.ns.length (repM r opt n all g).2)
  | 0, all, g, _, _, _ => rfl
  | n + 1, all, g, h, hp, hn => by
    have hn' : (n + 1) * d = n * d + d := Nat.succ_mul n d
    obtain ⟨h1, h2, h3⟩ := hg g h
    have hj := join_ok (f := (r g).1) (a := all) (b := ⟨(r g).2.f, (r g).2.l, opt || (r g).2.e⟩) h1 (hp.mono (by omega)) (by rw [h2]; exact ⟨h3.1, h3.2⟩)
    have hl : (joinM (r g).1 all ⟨(r g).2.f, (r g).2.l, opt || (r g).2.e⟩).1.ns.length = g.ns.length + d := by rw [hj.2.1, h2]
    have key : joinM (shF f (r g).1) (shP f.ns.length all) ⟨(r g).2.f <<< f.ns.length, (r g).2.l <<< f.ns.length, opt || (r g).2.e⟩ = (shF f (joinM (r g).1 all ⟨(r g).2.f, (r g).2.l, opt || (r g).2.e⟩).1, shP f.ns.length (joinM (r g).1 all ⟨(r g).2.f, (r g).2.l, opt || (r g).2.e⟩).2) :=
      join_sh hf (b := ⟨(r g).2.f, (r g).2.l, opt || (r g).2.e⟩) hp.2 (by omega)
    rw [repM, repM, hr g h (by omega)]
    simp only [shP] at key ⊢
    rw [key]
    exact rep_sh hr hg opt n _ _ hj.1 (by rw [hl, ← h2]; exact hj.2.2) (by rw [hl]; omega)
theorem row_sh : ∀ (l : List Ex), (∀ e ∈ l, Moves f (posE e) (addM e)) → ∀ (all : Pa) (g : Fm), FOk g → POk g.ns.length all → f.ns.length + g.ns.length + posL l ≤ 25 →
    rowM l (shP f.ns.length all) (shF f g) = (shF f (rowM l all g).1, shP f.ns.length (rowM l all g).2)
  | [], _, all, g, _, _, _ => rfl
  | e :: l, hl, all, g, h, hp, hn => by
    rw [posL] at hn
    obtain ⟨h1, h2, h3⟩ := add_ok e g h
    have hj := join_ok (f := (addM e g).1) (a := all) (b := (addM e g).2) h1 (hp.mono (by omega)) (by rw [h2]; exact h3)
    have hlen : (joinM (addM e g).1 all (addM e g).2).1.ns.length = g.ns.length + posE e := by rw [hj.2.1, h2]
    rw [rowM, rowM, hl e (by simp) g h (by omega)]
    simp only
    rw [join_sh hf hp.2 (by omega)]
    exact row_sh l (fun x hx => hl x (by simp [hx])) _ _ hj.1 (by rw [hlen, ← h2]; exact hj.2.2) (by rw [hlen]; omega)
omit hf in
theorem cho_sh : ∀ (l : List Ex), (∀ e ∈ l, Moves f (posE e) (addM e)) → ∀ (all : Pa) (g : Fm), FOk g → f.ns.length + g.ns.length + posL l ≤ 25 →
    choM l (shP f.ns.length all) (shF f g) = (shF f (choM l all g).1, shP f.ns.length (choM l all g).2)
  | [], _, all, g, _, _ => rfl
  | e :: l, hl, all, g, h, hn => by
    rw [posL] at hn
    obtain ⟨h1, h2, h3⟩ := add_ok e g h
    have := cho_sh l (fun x hx => hl x (by simp [hx])) ⟨all.f ||| (addM e g).2.f, all.l ||| (addM e g).2.l, all.e || (addM e g).2.e⟩ (addM e g).1 h1 (by omega)
    rw [choM, choM, hl e (by simp) g h (by omega)]
    simp only [shP, Nat.shiftLeft_or_distrib] at this ⊢
    exact this
theorem add_sh (e : Ex) : Moves f (posE e) (addM e) := by
  induction e using Ex.ind with
  | h k n a b l ih =>
    intro g h hn
    rw [addM, addM]
    unfold posE at hn
    by_cases h2 : k = 2
    · rw [if_pos h2, if_pos h2, ← shP_nil f.ns.length true]
      rw [if_pos (.inl h2)] at hn
      have := row_sh hf l ih ⟨0, 0, true⟩ g h (POk.nil _ _) hn
      rw [shP_nil] at this ⊢; exact this
    by_cases h3 : k = 3
    · rw [if_neg h2, if_pos h3, if_neg h2, if_pos h3]
      rw [if_pos (.inr h3)] at hn
      have := cho_sh l ih ⟨0, 0, false⟩ g h hn
      rw [shP_nil] at this; exact this
    by_cases h4 : k = 4
    · rw [if_neg h2, if_neg h3, if_pos h4, if_neg h2, if_neg h3, if_pos h4]
      rw [if_neg (by omega), if_pos h4] at hn
      cases l with
      | nil => rw [manM, manM, shP_nil]
      | cons e l =>
        have hm := ih e (by simp)
        have hk := add_ok e
        simp only at hn
        by_cases hb : b = -1
        · simp only [if_pos hb] at hn
          have hn' : (a.toNat + 1) * posE e = a.toNat * posE e + posE e := Nat.succ_mul _ _
          obtain ⟨r1, r2, r3⟩ := rep_ok hk false a.toNat ⟨0, 0, true⟩ g h (POk.nil _ _)
          have hr := rep_sh hf hm hk false a.toNat ⟨0, 0, true⟩ g h (POk.nil _ _) (by omega)
          rw [shP_nil] at hr
          rw [manM, manM]
          simp only [if_pos hb, hr]
          obtain ⟨s1, s2, s3⟩ := hk _ r1
          rw [hm _ r1 (by rw [r2]; omega)]
          simp only [shP]
          rw [link_sh hf (k := g.ns.length + a.toNat * posE e + posE e) (by rw [← r2]; exact s3.2) (by omega)]
          exact join_sh hf (g := linkM (addM e (repM (addM e) false a.toNat ⟨0, 0, true⟩ g).1).1 (addM e (repM (addM e) false a.toNat ⟨0, 0, true⟩ g).1).2.l (addM e (repM (addM e) false a.toNat ⟨0, 0, true⟩ g).1).2.f) (a := (repM (addM e) false a.toNat ⟨0, 0, true⟩ g).2) (b := ⟨(addM e (repM (addM e) false a.toNat ⟨0, 0, true⟩ g).1).2.f, (addM e (repM (addM e) false a.toNat ⟨0, 0, true⟩ g).1).2.l, true⟩) r3.2 (by omega)
        · simp only [if_neg hb] at hn
          have hn' : (a.toNat + (b - a).toNat) * posE e = a.toNat * posE e + (b - a).toNat * posE e := Nat.add_mul _ _ _
          obtain ⟨r1, r2, r3⟩ := rep_ok hk false a.toNat ⟨0, 0, true⟩ g h (POk.nil _ _)
          have hr := rep_sh hf hm hk false a.toNat ⟨0, 0, true⟩ g h (POk.nil _ _) (by omega)
          rw [shP_nil] at hr
          rw [manM, manM]
          simp only [if_neg hb, hr]
          exact rep_sh hf hm hk true (b - a).toNat _ _ r1 (by rw [r2]; exact r3) (by rw [r2]; omega)
    · rw [if_neg h2, if_neg h3, if_neg h4, if_neg h2, if_neg h3, if_neg h4]
      exact spot_sh n
end
end Go.Proofs.YtkbileabkfccgaaGreatDoor

/- match: sets of spots, each spot twice. Of no program. -/
namespace Go.Proofs.YtkbileabkfccgaaGreatDoor
open Go.RowKit

/-! ## sets of spots, each spot twice -/
/-- each spot behind the first one stands n further on, too -/
def dup (n x : Nat) : Nat := x ||| (x >>> 1) <<< (n + 1)
theorem dup_bit {n x : Nat} (h : x < 2 ^ (n + 1)) (j : Nat) : (dup n x).testBit j = if j ≤ n then x.testBit j else x.testBit (j - n) := by
  unfold dup
  rw [Nat.testBit_or, Nat.testBit_shiftLeft, Nat.testBit_shiftRight]
  by_cases hj : j ≤ n
  · rw [if_pos hj]
    have : ¬ (j ≥ n + 1) := by omega
    simp [this]
  · rw [if_neg hj]
    have h0 : x.testBit j = false := Nat.testBit_lt_two_pow (Nat.lt_of_lt_of_le h (Nat.pow_le_pow_right (by decide) (by omega)))
    have h1 : j ≥ n + 1 := by omega
    have h2 : 1 + (j - (n + 1)) = j - n := by omega
    rw [h0, h2]; simp [h1]
theorem dup_zero (n : Nat) : dup n 0 = 0 := by simp [dup]
theorem dup_one (n : Nat) : dup n 1 = 1 := by simp [dup]
theorem dup_inj {n x y : Nat} (hx : x < 2 ^ (n + 1)) (hy : y < 2 ^ (n + 1)) (h : dup n x = dup n y) : x = y := by
  apply Nat.eq_of_testBit_eq
  intro j
  by_cases hj : j ≤ n
  · have a := dup_bit hx j
    have b := dup_bit hy j
    rw [if_pos hj] at a b
    rw [← a, ← b, h]
  · rw [Nat.testBit_lt_two_pow (Nat.lt_of_lt_of_le hx (Nat.pow_le_pow_right (by decide) (by omega))), Nat.testBit_lt_two_pow (Nat.lt_of_lt_of_le hy (Nat.pow_le_pow_right (by decide) (by omega)))]
theorem dup_eq_zero {n x : Nat} (hx : x < 2 ^ (n + 1)) : dup n x = 0 ↔ x = 0 :=
  ⟨fun h => dup_inj hx (Nat.two_pow_pos _) (by rw [h, dup_zero]), fun h => by rw [h, dup_zero]⟩
theorem dup_and {n x y : Nat} (hx : x < 2 ^ (n + 1)) (hy : y < 2 ^ (n + 1)) : dup n x &&& dup n y = dup n (x &&& y) := by
  apply Nat.eq_of_testBit_eq
  intro j
  rw [Nat.testBit_and, dup_bit hx, dup_bit hy, dup_bit (Nat.and_lt_two_pow _ hy)]
  split <;> rw [Nat.testBit_and]
theorem dup_or {n x y : Nat} (hx : x < 2 ^ (n + 1)) (hy : y < 2 ^ (n + 1)) : dup n x ||| dup n y = dup n (x ||| y) := by
  apply Nat.eq_of_testBit_eq
  intro j
  rw [Nat.testBit_or, dup_bit hx, dup_bit hy, dup_bit (Nat.or_lt_two_pow hx hy)]
  split <;> rw [Nat.testBit_or]
theorem dup_shl (n x : Nat) : dup n (x <<< 1) = x <<< 1 ||| x <<< (1 + n) := by
  unfold dup
  rw [Nat.shiftLeft_shiftRight, Nat.add_comm]
theorem next_bit (bh : List Nat) (j : Nat) : ∀ (l : List Nat) (a : Nat), (l.foldl (fun n i => n ||| bh.getD i 0) a).testBit j = (a.testBit j || l.any fun i => (bh.getD i 0).testBit j)
  | [], a => by simp
  | i :: l, a => by rw [List.foldl_cons, next_bit bh j l, Nat.testBit_or, List.any_cons, Bool.or_assoc]
theorem nextM_bit {bh : List Nat} {s j : Nat} : (nextM bh s).testBit j = true ↔ ∃ i, i < 25 ∧ s.testBit i = true ∧ (bh.getD i 0).testBit j = true := by
  unfold nextM
  rw [next_bit]
  simp only [Nat.zero_testBit, Bool.false_or, List.any_eq_true]
  exact ⟨fun ⟨i, hi, h⟩ => ⟨i, (bits_mem.1 hi).1, (bits_mem.1 hi).2, h⟩, fun ⟨i, h1, h2, h3⟩ => ⟨i, bits_mem.2 ⟨h1, h2⟩, h3⟩⟩
theorem nextM_small {bh : List Nat} {s n : Nat} (hb : ∀ x ∈ bh, x < 2 ^ n) : nextM bh s < 2 ^ n := by
  refine Nat.lt_pow_two_of_testBit _ fun j hj => ?_
  rw [Bool.eq_false_iff]
  intro h
  obtain ⟨i, _, _, h3⟩ := nextM_bit.1 h
  by_cases hi : i < bh.length
  · rw [List.getD_eq_getElem?_getD, List.getElem?_eq_getElem hi, Option.getD_some] at h3
    rw [Nat.testBit_lt_two_pow (Nat.lt_of_lt_of_le (hb _ (List.getElem_mem hi)) (Nat.pow_le_pow_right (by decide) hj))] at h3
    cases h3
  · rw [List.getD_eq_getElem?_getD, List.getElem?_eq_none (by omega)] at h3
    simp at h3
/-- what may come behind, each spot twice -/
def dupB (n : Nat) (bh : List Nat) : List Nat := match bh with
  | [] => []
  | F :: B => dup n F :: (B ++ B.map (· <<< n))
theorem next_dup {n s : Nat} {bh : List Nat} (hl : bh.length = n + 1) (hb : ∀ x ∈ bh, x < 2 ^ (n + 1) ∧ x.testBit 0 = false) (hn : n + n + 1 ≤ 25) (hs : s < 2 ^ (n + 1)) :
    nextM (dupB n bh) (dup n s) = dup n (nextM bh s) := by
  obtain ⟨F, B, rfl⟩ : ∃ F B, bh = F :: B := by cases bh with
    | nil => simp at hl
    | cons F B => exact ⟨F, B, rfl⟩
  have hB : B.length = n := by simpa using hl
  have hF := hb F (by simp)
  have hsm := nextM_small (s := s) fun x hx => (hb x hx).1
  have get0 : ∀ i, i < n → (F :: B).getD (i + 1) 0 = B.getD i 0 := fun i _ => rfl
  have lo : ∀ i, i < n → (dupB n (F :: B)).getD (i + 1) 0 = B.getD i 0 := by
    intro i hi
    show (B ++ B.map (· <<< n)).getD i 0 = _
    rw [List.getD_eq_getElem?_getD, List.getElem?_append_left (by omega), ← List.getD_eq_getElem?_getD]
  have hi' : ∀ i, i < n → (dupB n (F :: B)).getD (n + i + 1) 0 = (B.getD i 0) <<< n := by
    intro i hi
    show (B ++ B.map (· <<< n)).getD (n + i) 0 = _
    rw [← getD_shl, List.getD_eq_getElem?_getD, List.getElem?_append_right (by omega), ← List.getD_eq_getElem?_getD]
    congr 1; omega
  have out : ∀ i, n + n + 1 ≤ i → (dupB n (F :: B)).getD i 0 = 0 := by
    intro i hi
    rw [List.getD_eq_getElem?_getD, List.getElem?_eq_none (by simp [dupB]; omega)]; rfl
  have hBx : ∀ i, (B.getD i 0) < 2 ^ (n + 1) ∧ (B.getD i 0).testBit 0 = false := by
    intro i
    by_cases h : i < B.length
    · rw [List.getD_eq_getElem?_getD, List.getElem?_eq_getElem h]
      exact hb _ (List.mem_cons_of_mem _ (List.getElem_mem h))
    · rw [List.getD_eq_getElem?_getD, List.getElem?_eq_none (by omega)]
      exact ⟨Nat.two_pow_pos _, by simp⟩
  have sbit : ∀ i, s.testBit i = true → i ≤ n := by
    intro i h
    refine Decidable.byContradiction fun hc => ?_
    rw [Nat.testBit_lt_two_pow (Nat.lt_of_lt_of_le hs (Nat.pow_le_pow_right (by decide) (by omega)))] at h
    cases h
  have bbit : ∀ i j, (B.getD i 0).testBit j = true → 1 ≤ j ∧ j ≤ n := by
    intro i j h
    refine ⟨Decidable.byContradiction fun hc => ?_, Decidable.byContradiction fun hc => ?_⟩
    · obtain rfl : j = 0 := by omega
      rw [(hBx i).2] at h; cases h
    · rw [Nat.testBit_lt_two_pow (Nat.lt_of_lt_of_le (hBx i).1 (Nat.pow_le_pow_right (by decide) (by omega)))] at h
      cases h
  apply Nat.eq_of_testBit_eq
  intro j
  rw [Bool.eq_iff_iff, nextM_bit, dup_bit hsm]
  constructor
  · rintro ⟨i, h1, h2, h3⟩
    rw [dup_bit hs] at h2
    rcases Nat.lt_trichotomy i 0 with h | rfl | h
    · omega
    · rw [if_pos (Nat.zero_le _)] at h2
      change (dup n F).testBit j = true at h3
      rw [dup_bit hF.1] at h3
      split at h3
      · rw [if_pos (by assumption)]; exact nextM_bit.2 ⟨0, by omega, h2, h3⟩
      · rw [if_neg (by assumption)]; exact nextM_bit.2 ⟨0, by omega, h2, h3⟩
    · by_cases hin : i ≤ n
      · rw [if_pos hin] at h2
        obtain ⟨k, rfl⟩ : ∃ k, i = k + 1 := ⟨i - 1, by omega⟩
        rw [lo k (by omega)] at h3
        rw [if_pos (bbit k j h3).2]
        exact nextM_bit.2 ⟨k + 1, h1, h2, h3⟩
      · rw [if_neg hin] at h2
        have := sbit _ h2
        obtain ⟨k, rfl⟩ : ∃ k, i = n + k + 1 := ⟨i - n - 1, by omega⟩
        rw [hi' k (by omega), Nat.testBit_shiftLeft] at h3
        simp only [Bool.and_eq_true, decide_eq_true_eq] at h3
        have hb2 := bbit k _ h3.2
        rw [if_neg (by omega)]
        refine nextM_bit.2 ⟨k + 1, by omega, ?_, h3.2⟩
        have e : n + k + 1 - n = k + 1 := by omega
        rw [e] at h2; exact h2
  · intro h
    have fin : ∀ j', (nextM (F :: B) s).testBit j' = true → (j = j' ∨ j = j' + n ∧ 1 ≤ j') → (if j ≤ n then j' = j else j' = j - n) → ∃ i, i < 25 ∧ (dup n s).testBit i = true ∧ ((dupB n (F :: B)).getD i 0).testBit j = true := by
      intro j' hj' hjj hc
      obtain ⟨i, h1, h2, h3⟩ := nextM_bit.1 hj'
      have hin := sbit i h2
      cases i with
      | zero =>
        refine ⟨0, by omega, by rw [dup_bit hs, if_pos (Nat.zero_le _)]; exact h2, ?_⟩
        show (dup n F).testBit j = true
        change F.testBit j' = true at h3
        rw [dup_bit hF.1]
        split at hc
        · rw [if_pos (by assumption), ← hc]; exact h3
        · rw [if_neg (by assumption), ← hc]; exact h3
      | succ k =>
        rw [get0 k (by omega)] at h3
        have hbk := bbit k j' h3
        split at hc
        · subst hc
          exact ⟨k + 1, h1, by rw [dup_bit hs, if_pos hin]; exact h2, by rw [lo k (by omega)]; exact h3⟩
        · rename_i hjn
          refine ⟨n + k + 1, by omega, ?_, ?_⟩
          · rw [dup_bit hs, if_neg (by omega)]
            have e : n + k + 1 - n = k + 1 := by omega
            rw [e]; exact h2
          · rw [hi' k (by omega), Nat.testBit_shiftLeft, ← hc, h3]
            simp; omega
    split at h
    · exact fin j h (.inl rfl) (by rw [if_pos (by assumption)])
    · rename_i hjn
      exact fin (j - n) h (.inr (by omega)) (by rw [if_neg hjn])
end Go.Proofs.YtkbileabkfccgaaGreatDoor

/- match: tables that are alike have the same machine. Of no program. -/
namespace Go.Proofs.YtkbileabkfccgaaGreatDoor
open Go.RowKit

/-! ## the tables are alike -/
theorem idx_map {α β : Type} [BEq α] [LawfulBEq α] [BEq β] [LawfulBEq β] (f : α → β) (s : α) : ∀ (l : List α), (∀ x ∈ l, f x = f s → x = s) → (l.map f).idxOf (f s) = l.idxOf s
  | [], _ => rfl
  | x :: l, h => by
    rw [List.map_cons, List.idxOf_cons, List.idxOf_cons, idx_map f s l fun y hy => h y (by simp [hy])]
    by_cases e : x = s
    · subst e; simp
    · have e2 : ¬ f x = f s := fun k => e (h x (by simp) k)
      have e3 : (x == s) = false := by simpa using e
      have e4 : (f x == f s) = false := by simpa using e2
      rw [e3, e4]
theorem mem_map_inj {α β : Type} (f : α → β) (s : α) (l : List α) (h : ∀ x ∈ l, f x = f s → x = s) : f s ∈ l.map f ↔ s ∈ l := by
  rw [List.mem_map]
  exact ⟨fun ⟨x, hx, e⟩ => h x hx e ▸ hx, fun hs => ⟨s, hs, rfl⟩⟩
/-- all of them are sets of spots 0 to n -/
def Sm (n : Nat) (l : List Nat) : Prop := ∀ x ∈ l, x < 2 ^ (n + 1)
theorem numO_dup {n s : Nat} {l : List Nat} (hl : Sm n l) (hs : s < 2 ^ (n + 1)) : numO (l.map (dup n)) (dup n s) = ((numO l s).1, (numO l s).2.map (dup n)) ∧ Sm n (numO l s).2 := by
  have hinj : ∀ x ∈ l, dup n x = dup n s → x = s := fun x hx e => dup_inj (hl x hx) hs e
  unfold numO
  by_cases h0 : s = 0
  · rw [if_pos ((dup_eq_zero hs).2 h0), if_pos h0]; exact ⟨rfl, hl⟩
  · rw [if_neg (fun e => h0 ((dup_eq_zero hs).1 e)), if_neg h0]
    by_cases hm : s ∈ l
    · rw [if_pos ((mem_map_inj _ s l hinj).2 hm), if_pos hm, idx_map _ s l hinj]; exact ⟨rfl, hl⟩
    · rw [if_neg (fun e => hm ((mem_map_inj _ s l hinj).1 e)), if_neg hm, List.length_map]
      refine ⟨by simp, fun x hx => ?_⟩
      rcases List.mem_append.1 hx with hx | hx
      · exact hl x hx
      · simp at hx; subst hx; exact hs
def dupL (n : Nat) (L : Lt) : Lt := ⟨dup n L.at_, L.ts⟩
theorem rowS_dup {n nx : Nat} (hx : nx < 2 ^ (n + 1)) : ∀ (ls : List Lt) (a : List Int × List Nat), (∀ L ∈ ls, L.at_ < 2 ^ (n + 1)) → Sm n a.2 →
    (ls.map (dupL n)).foldl (rowS1 (dup n nx)) (a.1, a.2.map (dup n)) = ((ls.foldl (rowS1 nx) a).1, (ls.foldl (rowS1 nx) a).2.map (dup n)) ∧ Sm n (ls.foldl (rowS1 nx) a).2
  | [], a, _, h => ⟨rfl, h⟩
  | L :: ls, a, hl, h => by
    have h1 := numO_dup h (s := nx &&& L.at_) (Nat.and_lt_two_pow _ (hl L (by simp)))
    have ih := rowS_dup hx ls (rowS1 nx a L) (fun x hx => hl x (by simp [hx])) h1.2
    rw [List.map_cons, List.foldl_cons, List.foldl_cons]
    have e : rowS1 (dup n nx) (a.1, a.2.map (dup n)) (dupL n L) = ((rowS1 nx a L).1, (rowS1 nx a L).2.map (dup n)) := by
      unfold rowS1 dupL
      simp only
      rw [dup_and hx (hl L (by simp)), h1.1]
    rw [e]; exact ih
section
variable {n : Nat} {bh : List Nat} {ls : List Lt} (hl : bh.length = n + 1) (hb : ∀ x ∈ bh, x < 2 ^ (n + 1) ∧ x.testBit 0 = false) (hn : n + n + 1 ≤ 25) (hls : ∀ L ∈ ls, L.at_ < 2 ^ (n + 1))
include hl hb hn hls
theorem step_dup {st : List Nat × List (List Int)} (hs : Sm n st.1) :
    stepF (dupB n bh) (ls.map (dupL n)) (st.1.map (dup n), st.2) = ((stepF bh ls st).1.map (dup n), (stepF bh ls st).2) ∧ Sm n (stepF bh ls st).1 := by
  have hg : st.1.getD st.2.length 0 < 2 ^ (n + 1) := by
    by_cases h : st.2.length < st.1.length
    · rw [List.getD_eq_getElem?_getD, List.getElem?_eq_getElem h]; exact hs _ (List.getElem_mem h)
    · rw [List.getD_eq_getElem?_getD, List.getElem?_eq_none (by omega)]; exact Nat.two_pow_pos _
  have hgd : (st.1.map (dup n)).getD st.2.length 0 = dup n (st.1.getD st.2.length 0) := by
    rw [List.getD_eq_getElem?_getD, List.getD_eq_getElem?_getD, List.getElem?_map]
    cases st.1[st.2.length]? <;> simp [dup_zero]
  have hr := rowS_dup (n := n) (nx := nextM bh (st.1.getD st.2.length 0)) (nextM_small fun x hx => (hb x hx).1) ls ([], st.1) hls hs
  unfold stepF rowS
  simp only
  rw [hgd, next_dup hl hb hn hg]
  simp only at hr
  rw [hr.1]
  exact ⟨rfl, hr.2⟩
theorem found_dup : ∀ (f : Nat) (st : List Nat × List (List Int)), Sm n st.1 → foundF (dupB n bh) (ls.map (dupL n)) f (st.1.map (dup n), st.2) = ((foundF bh ls f st).1.map (dup n), (foundF bh ls f st).2) ∧ Sm n (foundF bh ls f st).1
  | 0, st, h => ⟨rfl, h⟩
  | f + 1, st, h => by
    rw [foundF, foundF]
    simp only [List.length_map]
    have hs := step_dup hl hb hn hls h
    split
    · rw [hs.1]; exact found_dup f _ hs.2
    · exact ⟨rfl, h⟩
end
theorem auto_congr {t t' : Tb} (h1 : t'.to = t.to) (h2 : ∀ i, endM t' i = endM t i) (h3 : t'.sets.length = t.sets.length) (h4 : t'.ls.map Lt.ts = t.ls.map Lt.ts) : autoM t' = autoM t := by
  have h5 : t'.ls.length = t.ls.length := by have := congrArg List.length h4; simpa using this
  have hto : ∀ i k, toM t' i k = toM t i k := fun i k => by unfold toM; rw [h1]
  have hq0 : q0 t' = q0 t := by funext i; unfold q0; rw [h2]
  have hq1 : ∀ s k, q1 t' s k = q1 t s k := fun s k => by funext i; unfold q1; rw [hto]
  have hone : oneS t' = oneS t := by funext s k; unfold oneS; rw [hq1, h3]
  have hpass : passM t' = passM t := by funext s; unfold passM; rw [hone, h5]
  have hmf : ∀ f b s, mergeF t' f b s = mergeF t f b s := by
    intro f
    induction f with
    | zero => intro b s; rfl
    | succ f ih => intro b s; rw [mergeF, mergeF, hpass, ih]
  have hst : startS t' = startS t := by unfold startS; rw [hq0, h3]
  have hm : mergeM t' = mergeM t := by unfold mergeM; rw [hmf, h3, hst]
  have hpc : ∀ i ss k, pieceE t' i ss k = pieceE t i ss k := by
    intro i ss k
    unfold pieceE
    rw [hto]
    have hk := congrArg (fun l => l[k]?) h4
    simp only [List.getElem?_map] at hk
    cases e1 : t'.ls[k]? <;> cases e2 : t.ls[k]? <;> rw [e1, e2] at hk <;> simp_all
  have hraw : ∀ i ss, rawE t' i ss = rawE t i ss := by
    intro i ss
    have : pieceE t' i ss = pieceE t i ss := by funext k; exact hpc i ss k
    unfold rawE; rw [h5, this]
  have hsm : ∀ ms i, stateM t' ms i = stateM t ms i := fun ms i => by unfold stateM; rw [h2, hraw]
  have has : autoS t' = autoS t := by funext ms acc i; unfold autoS; rw [hsm]
  unfold autoM autoK
  rw [hm, has]
/-- the table of an expression, each spot twice, has the same machine -/
theorem auto_dup {n ends : Nat} {bh : List Nat} {ls : List Lt} (hl : bh.length = n + 1) (hb : ∀ x ∈ bh, x < 2 ^ (n + 1) ∧ x.testBit 0 = false) (hn : n + n + 1 ≤ 25) (hls : ∀ L ∈ ls, L.at_ < 2 ^ (n + 1)) (he : ends < 2 ^ (n + 1)) :
    autoM (foundT (dupB n bh) (dup n ends) (ls.map (dupL n))) = autoM (foundT bh ends ls) := by
  have h1 : Sm n [1] := fun x hx => by
    simp at hx; subst hx
    exact Nat.one_lt_two_pow (by omega)
  have hf := found_dup hl hb hn hls 33554433 ([1], []) h1
  have e1 : ([1] : List Nat).map (dup n) = [1] := by simp [dup_one]
  simp only [e1] at hf
  have hfm : foundM (dupB n bh) (ls.map (dupL n)) = ((foundM bh ls).1.map (dup n), (foundM bh ls).2) := hf.1
  have hsm : Sm n (foundM bh ls).1 := hf.2
  refine auto_congr ?_ (fun i => ?_) ?_ ?_
  · show (foundM _ _).2 = _; rw [hfm]; rfl
  · unfold endM foundT
    simp only [hfm]
    have hgd : ((foundM bh ls).1.map (dup n)).getD i 0 = dup n ((foundM bh ls).1.getD i 0) := by
      rw [List.getD_eq_getElem?_getD, List.getD_eq_getElem?_getD, List.getElem?_map]
      cases (foundM bh ls).1[i]? <;> simp [dup_zero]
    have hg : (foundM bh ls).1.getD i 0 < 2 ^ (n + 1) := by
      by_cases h : i < (foundM bh ls).1.length
      · rw [List.getD_eq_getElem?_getD, List.getElem?_eq_getElem h]; exact hsm _ (List.getElem_mem h)
      · rw [List.getD_eq_getElem?_getD, List.getElem?_eq_none (by omega)]; exact Nat.two_pow_pos _
    rw [hgd, dup_and hg he]
    by_cases h0 : (foundM bh ls).1.getD i 0 &&& ends = 0
    · rw [h0, dup_zero]
    · rw [if_pos h0, if_pos (fun e => h0 ((dup_eq_zero (Nat.and_lt_two_pow _ he)).1 e))]
  · show (foundM _ _).1.length = _; rw [hfm, List.length_map]; rfl
  · show (ls.map (dupL n)).map Lt.ts = _
    rw [List.map_map]; rfl
end Go.Proofs.YtkbileabkfccgaaGreatDoor

/- match: letters, each spot twice. Of no program. -/
namespace Go.Proofs.YtkbileabkfccgaaGreatDoor
open Go.RowKit

/-! ## letters, each spot twice -/
section
variable {κ ν : Type} [DecidableEq κ]
theorem look_none {l : List (κ × ν)} {k : κ} (h : k ∉ l.map Prod.fst) : lookA l k = none := by
  unfold lookA
  rw [List.find?_eq_none.2]
  · rfl
  · intro p hp
    simp only [decide_eq_true_eq]
    intro e
    exact h (List.mem_map.2 ⟨p, hp, e⟩)
theorem look_some {l : List (κ × ν)} {k : κ} {v : ν} (hn : (l.map Prod.fst).Nodup) (h : (k, v) ∈ l) : lookA l k = some v := by
  induction l with
  | nil => cases h
  | cons p l ih =>
    rw [List.map_cons, List.nodup_cons] at hn
    by_cases e : p.1 = k
    · rcases List.mem_cons.1 h with h | h
      · unfold lookA; rw [List.find?_cons_of_pos (by simpa using e), ← h]; rfl
      · exact absurd (List.mem_map.2 ⟨_, h, e.symm⟩) hn.1
    · rcases List.mem_cons.1 h with h | h
      · exact absurd (by rw [← h]) e
      · have := ih hn.2 h
        unfold lookA at this ⊢
        rw [List.find?_cons_of_neg (by simpa using e)]; exact this
theorem look_put (l : List (κ × ν)) (k k' : κ) (v : ν) : lookA (putA l k v) k' = if k' = k then some v else lookA l k' := by
  unfold putA
  by_cases h : (l.any fun p => decide (p.1 = k)) = true
  · rw [if_pos h]
    induction l with
    | nil => simp at h
    | cons p l ih =>
      rw [List.map_cons]
      by_cases e : p.1 = k
      · by_cases e2 : k' = k
        · subst e2
          rw [if_pos rfl, if_pos e]
          unfold lookA
          rw [List.find?_cons_of_pos (by simp)]; rfl
        · rw [if_neg e2, if_pos e]
          have hne : ¬ k = k' := fun q => e2 q.symm
          have hne2 : ¬ p.1 = k' := fun q => e2 (q ▸ e ▸ rfl)
          unfold lookA
          rw [List.find?_cons_of_neg (by simpa using hne), List.find?_cons_of_neg (by simpa using hne2)]
          by_cases hl : (l.any fun p => decide (p.1 = k)) = true
          · have := ih hl
            rw [if_neg e2] at this
            exact this
          · congr 2
            have : ∀ q ∈ l, ¬ q.1 = k := by
              intro q hq e3
              exact hl (List.any_eq_true.2 ⟨q, hq, by simpa using e3⟩)
            conv => rhs; rw [← List.map_id l]
            exact List.map_congr_left fun q hq => by rw [if_neg (this q hq)]; rfl
      · rw [if_neg e]
        have hl : (l.any fun p => decide (p.1 = k)) = true := by simpa [e] using h
        have := ih hl
        by_cases e3 : p.1 = k'
        · have e4 : ¬ k' = k := fun q => e (e3.trans q)
          rw [if_neg e4]
          unfold lookA
          rw [List.find?_cons_of_pos (by simpa using e3), List.find?_cons_of_pos (by simpa using e3)]
        · unfold lookA at this ⊢
          rw [List.find?_cons_of_neg (by simpa using e3), List.find?_cons_of_neg (by simpa using e3)]
          exact this
  · rw [if_neg h]
    have hk : k ∉ l.map Prod.fst := by
      intro hm
      obtain ⟨p, hp, e⟩ := List.mem_map.1 hm
      exact h (List.any_eq_true.2 ⟨p, hp, by simpa using e⟩)
    by_cases e : k' = k
    · subst e
      rw [if_pos rfl]
      have := look_none hk
      unfold lookA at this ⊢
      rw [List.find?_append]
      cases hf : l.find? fun p => decide (p.1 = k') with
      | none => simp
      | some q => rw [hf] at this; simp at this
    · rw [if_neg e]
      unfold lookA
      rw [List.find?_append]
      have : ¬ k = k' := fun q => e q.symm
      cases hf : l.find? fun p => decide (p.1 = k') with
      | none => simp [this]
      | some q => simp
/-- keys of what is put -/
theorem put_keys_in {l : List (κ × ν)} {k : κ} (v : ν) (h : k ∈ l.map Prod.fst) : (putA l k v).map Prod.fst = l.map Prod.fst := by
  have : (l.any fun p => decide (p.1 = k)) = true := by
    obtain ⟨p, hp, e⟩ := List.mem_map.1 h
    exact List.any_eq_true.2 ⟨p, hp, by simpa using e⟩
  unfold putA
  rw [if_pos this, List.map_map]
  refine List.map_congr_left fun p _ => ?_
  simp only [Function.comp]
  split
  · rename_i e; exact e.symm
  · rfl
theorem put_keys_has (l : List (κ × ν)) (k : κ) (v : ν) {x : κ} (h : x ∈ l.map Prod.fst ∨ x = k) : x ∈ (putA l k v).map Prod.fst := by
  rcases Classical.em (k ∈ l.map Prod.fst) with hk | hk
  · rw [put_keys_in v hk]
    rcases h with h | rfl
    · exact h
    · exact hk
  · have : ¬ (l.any fun p => decide (p.1 = k)) = true := by
      intro e
      obtain ⟨p, hp, e⟩ := List.any_eq_true.1 e
      exact hk (List.mem_map.2 ⟨p, hp, by simpa using e⟩)
    unfold putA
    rw [if_neg this, List.map_append]
    rcases h with h | rfl
    · exact List.mem_append_left _ h
    · simp
theorem look_map {μ : Type} (g : κ → ν → μ) (l : List (κ × ν)) (k : κ) : lookA (l.map fun p => (p.1, g p.1 p.2)) k = (lookA l k).map (g k) := by
  induction l with
  | nil => rfl
  | cons p l ih =>
    rw [List.map_cons]
    unfold lookA at ih ⊢
    by_cases e : p.1 = k
    · rw [List.find?_cons_of_pos (by simpa using e), List.find?_cons_of_pos (by simpa using e)]
      simp [e]
    · rw [List.find?_cons_of_neg (by simpa using e), List.find?_cons_of_neg (by simpa using e)]
      exact ih
end
abbrev TM := List (ByteArray × Nat)
theorem steps_keys (k : Nat) : ∀ (ts : List ByteArray) (m : TM) (x : ByteArray), x ∈ m.map Prod.fst ∨ x ∈ ts → x ∈ (ts.foldl (atStep k) m).map Prod.fst
  | [], m, x, h => by simpa using h
  | t :: ts, m, x, h => by
    rw [List.foldl_cons]
    refine steps_keys k ts _ x ?_
    rcases h with h | h
    · exact .inl (put_keys_has _ _ _ (.inl h))
    · rcases List.mem_cons.1 h with rfl | h
      · exact .inl (put_keys_has _ _ _ (.inr rfl))
      · exact .inr h
/-- the first rows -/
def atQ (gs : List Gr) (N : List ByteArray) (k : Nat) : TM := (List.range k).foldl (fun m i => (standsM (N.getD i .empty) gs).foldl (atStep i) m) []
theorem atQ_succ (gs : List Gr) (N : List ByteArray) (k : Nat) : atQ gs N (k + 1) = (standsM (N.getD k .empty) gs).foldl (atStep k) (atQ gs N k) := by
  unfold atQ; rw [List.range_succ, List.foldl_append]; rfl
theorem atM_cons (x : ByteArray) (N : List ByteArray) (gs : List Gr) : atM (x :: N) gs = atQ gs N N.length := by
  unfold atM atQ atRow
  rw [List.length_cons, Nat.add_sub_cancel]; rfl
theorem atQ_app (gs : List Gr) (N M : List ByteArray) (k : Nat) (h : k ≤ N.length) : atQ gs (N ++ M) k = atQ gs N k := by
  induction k with
  | zero => rfl
  | succ k ih =>
    rw [atQ_succ, atQ_succ, ih (by omega)]
    congr 2
    rw [List.getD_eq_getElem?_getD, List.getD_eq_getElem?_getD, List.getElem?_append_left (by omega)]
theorem atQ_mono (gs : List Gr) (N : List ByteArray) {k m : Nat} (h : k ≤ m) {x : ByteArray} (hx : x ∈ (atQ gs N k).map Prod.fst) : x ∈ (atQ gs N m).map Prod.fst := by
  induction m with
  | zero => obtain rfl : k = 0 := by omega
            exact hx
  | succ m ih =>
    by_cases e : k = m + 1
    · subst e; exact hx
    · rw [atQ_succ]; exact steps_keys m _ _ x (.inl (ih (by omega)))
theorem atQ_has (gs : List Gr) (N : List ByteArray) {k : Nat} (h : k < N.length) {x : ByteArray} (hx : x ∈ standsM (N.getD k .empty) gs) : x ∈ (atQ gs N N.length).map Prod.fst :=
  atQ_mono gs N (show k + 1 ≤ N.length by omega) (by rw [atQ_succ]; exact steps_keys k _ _ x (.inr hx))
/-- types of M, at their spots, and n further on where m has them -/
def dupM (n : Nat) (M m : TM) : TM := M.map fun p => (p.1, p.2 ||| ((lookA m p.1).getD 0) <<< n)
theorem dupM_keys (n : Nat) (M m : TM) : (dupM n M m).map Prod.fst = M.map Prod.fst := by unfold dupM; rw [List.map_map]; rfl
theorem step_dupM (n k : Nat) {M m : TM} (hM : (M.map Prod.fst).Nodup) {t : ByteArray} (ht : t ∈ M.map Prod.fst) : atStep (n + k) (dupM n M m) t = dupM n M (atStep k m t) := by
  have hany : ((dupM n M m).any fun p => decide (p.1 = t)) = true := by
    obtain ⟨p, hp, e⟩ := List.mem_map.1 ht
    exact List.any_eq_true.2 ⟨_, List.mem_map.2 ⟨p, hp, rfl⟩, by simpa using e⟩
  have hlk : lookA (dupM n M m) t = (lookA M t).map fun v => v ||| ((lookA m t).getD 0) <<< n := look_map (fun k v => v ||| ((lookA m k).getD 0) <<< n) M t
  have hput : ∀ v, putA (dupM n M m) t v = (dupM n M m).map fun p => if p.1 = t then (t, v) else p := fun v => by unfold putA; rw [if_pos hany]
  unfold atStep
  rw [hlk, hput]
  unfold dupM
  rw [List.map_map]
  refine List.map_congr_left fun p hp => ?_
  simp only [Function.comp]
  rw [look_put]
  by_cases e : p.1 = t
  · rw [if_pos e, if_pos e]
    have : lookA M t = some p.2 := look_some hM (by rw [← e]; exact hp)
    rw [this]
    simp only [Option.map_some, Option.getD_some, e, Nat.shiftLeft_or_distrib, Nat.or_assoc]
    congr 3
    rw [Nat.shiftLeft_eq, ← Nat.pow_add]; congr 1; omega
  · rw [if_neg e, if_neg e]
theorem steps_dupM (n k : Nat) {M : TM} (hM : (M.map Prod.fst).Nodup) : ∀ (ts : List ByteArray) (m : TM), (∀ t ∈ ts, t ∈ M.map Prod.fst) → ts.foldl (atStep (n + k)) (dupM n M m) = dupM n M (ts.foldl (atStep k) m)
  | [], m, _ => rfl
  | t :: ts, m, h => by
    rw [List.foldl_cons, List.foldl_cons, step_dupM n k hM (h t (by simp))]
    exact steps_dupM n k hM ts _ fun x hx => h x (by simp [hx])
theorem dupM_nil (n : Nat) (M : TM) : dupM n M [] = M := by
  unfold dupM
  conv => rhs; rw [← List.map_id M]
  refine List.map_congr_left fun p _ => ?_
  simp [lookA]
theorem atQ_twice (gs : List Gr) (N : List ByteArray) (hM : ((atQ gs N N.length).map Prod.fst).Nodup) : ∀ k, k ≤ N.length → atQ gs (N ++ N) (N.length + k) = dupM N.length (atQ gs N N.length) (atQ gs N k)
  | 0, _ => by
    rw [Nat.add_zero, atQ_app _ _ _ _ (Nat.le_refl _)]
    exact (dupM_nil _ _).symm
  | k + 1, h => by
    rw [← Nat.add_assoc, atQ_succ, atQ_twice gs N hM k (by omega), atQ_succ]
    have e : (N ++ N).getD (N.length + k) .empty = N.getD k .empty := by
      rw [List.getD_eq_getElem?_getD, List.getD_eq_getElem?_getD, List.getElem?_append_right (by omega)]
      congr 2; omega
    rw [e]
    exact steps_dupM N.length k hM _ _ fun t ht => atQ_has gs N (by omega) ht
/-- spot 0 is no type's -/
theorem even_step {m : TM} {k : Nat} {t : ByteArray} (h : ∀ p ∈ m, p.2.testBit 0 = false) : ∀ p ∈ atStep k m t, p.2.testBit 0 = false := by
  intro p hp
  rcases putA_mem hp with hp | rfl
  · exact h p hp
  · show (((lookA m t).getD 0) ||| 2 ^ (k + 1)).testBit 0 = false
    rw [Nat.testBit_or]
    have h2 : (2 ^ (k + 1)).testBit 0 = false := by rw [Nat.testBit_two_pow]; simp
    rw [h2, Bool.or_false]
    cases hl : lookA m t with
    | none => simp
    | some v => exact h _ (lookA_mem hl)
theorem even_atQ (gs : List Gr) (N : List ByteArray) : ∀ k, ∀ p ∈ atQ gs N k, p.2.testBit 0 = false
  | 0 => by intro p hp; simp [atQ] at hp
  | k + 1 => by
    rw [atQ_succ]
    have : ∀ (ts : List ByteArray) (m : TM), (∀ p ∈ m, p.2.testBit 0 = false) → ∀ p ∈ ts.foldl (atStep k) m, p.2.testBit 0 = false := by
      intro ts
      induction ts with
      | nil => exact fun m h => h
      | cons t ts ih => exact fun m h => ih _ (even_step h)
    exact this _ _ (even_atQ gs N k)
theorem even_shr {v : Nat} (h : v.testBit 0 = false) : v >>> 1 <<< 1 = v := by
  rw [Nat.testBit_zero] at h
  simp at h
  rw [Nat.shiftLeft_eq, Nat.shiftRight_eq_div_pow]; omega
theorem dup_even {n v : Nat} (h : v.testBit 0 = false) : dup n v = v ||| v <<< n := by
  unfold dup
  have e : (v >>> 1) <<< (n + 1) = v <<< n := by
    conv => rhs; rw [← even_shr h]
    rw [← Nat.shiftLeft_add]; congr 1; omega
  rw [e]
theorem atM_twice (gs : List Gr) (x : ByteArray) (N : List ByteArray) (hM : ((atM (x :: N) gs).map Prod.fst).Nodup) : atM (x :: (N ++ N)) gs = (atM (x :: N) gs).map fun p => (p.1, dup N.length p.2) := by
  rw [atM_cons] at hM ⊢
  rw [atM_cons, List.length_append, atQ_twice gs N hM N.length (Nat.le_refl _)]
  unfold dupM
  refine List.map_congr_left fun p hp => ?_
  rw [look_some hM (show (p.1, p.2) ∈ _ from hp), Option.getD_some, dup_even (even_atQ gs N _ p hp)]
theorem letS_dup {n : Nat} {m : TM} (hm : ∀ t, (lookA m t).getD 0 < 2 ^ (n + 1)) (t : ByteArray) {a : List Lt} (ha : ∀ L ∈ a, L.at_ < 2 ^ (n + 1)) :
    letS (m.map fun p => (p.1, dup n p.2)) (a.map (dupL n)) t = (letS m a t).map (dupL n) ∧ ∀ L ∈ letS m a t, L.at_ < 2 ^ (n + 1) := by
  have hlk : (lookA (m.map fun p => (p.1, dup n p.2)) t).getD 0 = dup n ((lookA m t).getD 0) := by
    rw [look_map (fun _ v => dup n v) m t]
    cases lookA m t <;> simp [dup_zero]
  have hat : (a.map (dupL n)).map Lt.at_ = (a.map Lt.at_).map (dup n) := by rw [List.map_map, List.map_map]; rfl
  have hinj : ∀ x ∈ a.map Lt.at_, dup n x = dup n ((lookA m t).getD 0) → x = (lookA m t).getD 0 := by
    intro x hx e
    obtain ⟨L, hL, rfl⟩ := List.mem_map.1 hx
    exact dup_inj (ha L hL) (hm t) e
  unfold letS
  rw [hlk, hat, idx_map _ _ _ hinj]
  by_cases hc : (lookA m t).getD 0 ∈ a.map Lt.at_
  · rw [if_pos (List.contains_iff_mem.2 ((mem_map_inj _ _ _ hinj).2 hc)), if_pos (List.contains_iff_mem.2 hc)]
    constructor
    · apply List.ext_getElem?
      intro i
      rw [List.getElem?_modify, List.getElem?_map, List.getElem?_map, List.getElem?_modify]
      cases a[i]? with
      | none => rfl
      | some L => simp only [Option.map_some]; split <;> rfl
    · intro L hL
      obtain ⟨j, hj, rfl⟩ := List.mem_iff_getElem.1 hL
      have hj' : j < a.length := by simpa using hj
      rw [List.getElem_modify]
      split
      · exact ha (a[j]'hj') (List.getElem_mem hj')
      · exact ha (a[j]'hj') (List.getElem_mem hj')
  · rw [if_neg (fun e => hc ((mem_map_inj _ _ _ hinj).1 (List.contains_iff_mem.1 e))), if_neg (fun e => hc (List.contains_iff_mem.1 e))]
    refine ⟨by rw [List.map_append]; rfl, fun L hL => ?_⟩
    rcases List.mem_append.1 hL with hL | hL
    · exact ha L hL
    · simp at hL; subst hL; exact hm t
theorem letters_dup {n : Nat} {m : TM} (hm : ∀ t, (lookA m t).getD 0 < 2 ^ (n + 1)) : ∀ (ts : List ByteArray) (a : List Lt), (∀ L ∈ a, L.at_ < 2 ^ (n + 1)) →
    ts.foldl (letS (m.map fun p => (p.1, dup n p.2))) (a.map (dupL n)) = (ts.foldl (letS m) a).map (dupL n) ∧ ∀ L ∈ ts.foldl (letS m) a, L.at_ < 2 ^ (n + 1)
  | [], a, h => ⟨rfl, h⟩
  | t :: ts, a, h => by
    have := letS_dup hm t h
    rw [List.foldl_cons, List.foldl_cons, this.1]
    exact letters_dup hm ts _ this.2
theorem lettersM_twice (gs : List Gr) (x : ByteArray) (N : List ByteArray) :
    lettersM (x :: (N ++ N)) gs = (lettersM (x :: N) gs).map (dupL N.length) ∧ ∀ L ∈ lettersM (x :: N) gs, L.at_ < 2 ^ (N.length + 1) := by
  have hok := atM_ok (ns := x :: N) (gs := gs) (G := fun _ => True) (fun _ _ _ _ => trivial)
  have e := atM_twice gs x N hok.n
  have ek : (atM (x :: (N ++ N)) gs).map Prod.fst = (atM (x :: N) gs).map Prod.fst := by rw [e, List.map_map]; rfl
  have := letters_dup (n := N.length) (m := atM (x :: N) gs) (fun t => by
    have := hok.look (Nat.two_pow_pos _) t
    simpa using this) (sortTx ((atM (x :: N) gs).map Prod.fst)) [] (by simp)
  unfold lettersM
  rw [ek, e]
  exact this
end Go.Proofs.YtkbileabkfccgaaGreatDoor
