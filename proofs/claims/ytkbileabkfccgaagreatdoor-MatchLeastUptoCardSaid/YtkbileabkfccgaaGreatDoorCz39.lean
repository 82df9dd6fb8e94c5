/- MlE, MlF, merged. -/
import Derived.Test.YtkbileabkfccgaaGreatDoorCz38
import Derived.Test.YtkbileabkfccgaaGreatDoorCz20

/- match: it or it, perhaps it: the machine is the same. Of no program. -/
namespace Go.Proofs.YtkbileabkfccgaaGreatDoor
open Go.RowKit

/-! ## it or it -/
def fm0 : Fm := ⟨[emS], [0]⟩
theorem sh_nil (f : Fm) : shF f ⟨[], []⟩ = f := by unfold shF; simp
theorem fok0 : FOk (⟨[], []⟩ : Fm) := ⟨rfl, fun x hx => by cases hx⟩
theorem add_behind (e : Ex) {f : Fm} (hf : f.bh.length = f.ns.length) (hn : f.ns.length + posE e ≤ 25) : addM e f = (shF f (addM e ⟨[], []⟩).1, shP f.ns.length (addM e ⟨[], []⟩).2) := by
  have := add_sh hf e ⟨[], []⟩ fok0 (by simpa using hn)
  rw [sh_nil] at this; exact this
theorem bits_one : bitsN 1 = [0] := by decide
theorem link_one (F : Nat) (b : List Nat) (ns : List ByteArray) (t : Nat) : linkM ⟨ns, F :: b⟩ 1 t = ⟨ns, (F ||| t) :: b⟩ := by
  unfold linkM; rw [bits_one]; rfl
theorem write_eq (e : Ex) (hn : 1 + posE e ≤ 25) : writeM e = (⟨emS :: (addM e ⟨[], []⟩).1.ns, (addM e ⟨[], []⟩).2.f <<< 1 :: (addM e ⟨[], []⟩).1.bh.map (· <<< 1)⟩, if (addM e ⟨[], []⟩).2.e then (addM e ⟨[], []⟩).2.l <<< 1 ||| 1 else (addM e ⟨[], []⟩).2.l <<< 1) := by
  have e0 : spotM ⟨[], []⟩ emS = (fm0, ⟨1, 1, false⟩) := by unfold spotM fm0; simp
  unfold writeM
  rw [e0]
  simp only
  rw [add_behind e (f := fm0) rfl hn]
  unfold joinM
  simp only
  have : shF fm0 (addM e ⟨[], []⟩).1 = ⟨emS :: (addM e ⟨[], []⟩).1.ns, 0 :: (addM e ⟨[], []⟩).1.bh.map (· <<< 1)⟩ := rfl
  rw [this, link_one, Nat.zero_or]
  rfl
theorem two_add (nm : ByteArray) (a b : Int) (e : Ex) (hn : posE e + posE e ≤ 25) : addM (.mk 3 nm a b [e, e]) ⟨[], []⟩ =
    (shF (addM e ⟨[], []⟩).1 (addM e ⟨[], []⟩).1, ⟨(addM e ⟨[], []⟩).2.f ||| (addM e ⟨[], []⟩).2.f <<< posE e, (addM e ⟨[], []⟩).2.l ||| (addM e ⟨[], []⟩).2.l <<< posE e, (addM e ⟨[], []⟩).2.e⟩) := by
  obtain ⟨h1, h2, h3⟩ := add_ok e ⟨[], []⟩ fok0
  have hl : (addM e ⟨[], []⟩).1.ns.length = posE e := by rw [h2]; simp
  rw [addM, if_neg (by decide), if_pos rfl, choM, choM, choM]
  simp only
  rw [add_behind e (f := (addM e ⟨[], []⟩).1) h1.1 (by rw [hl]; omega), hl]
  simp [shP]
theorem make_two (nm : ByteArray) (a b : Int) (e : Ex) (gs : List Gr) (hn : posE e + posE e + 1 ≤ 25) : makeM (.mk 3 nm a b [e, e]) gs = makeM e gs := by
  obtain ⟨h1, h2, h3⟩ := add_ok e ⟨[], []⟩ fok0
  have hl : (addM e ⟨[], []⟩).1.ns.length = posE e := by rw [h2]; simp
  have hlb : (addM e ⟨[], []⟩).1.bh.length = posE e := by rw [h1.1, hl]
  have hp : posE (.mk 3 nm a b [e, e]) = posE e + posE e := by rw [posE, if_pos (.inr rfl), posL, posL, posL]; omega
  simp only [List.length_nil, Nat.zero_add] at h3
  have hbx : ∀ x ∈ (addM e ⟨[], []⟩).1.bh, x < 2 ^ posE e := by have := h1.2; rw [hl] at this; exact this
  obtain ⟨⟨⟨N, B⟩, P⟩, hg⟩ : ∃ r, addM e ⟨[], []⟩ = r := ⟨_, rfl⟩
  have hw2 := write_eq (.mk 3 nm a b [e, e]) (by rw [hp]; omega)
  have hw1 := write_eq e (by omega)
  rw [two_add nm a b e (by omega)] at hw2
  rw [hg] at hw1 hw2
  simp only [hg] at hl hlb h3 hbx
  have s1 : ∀ x, x < 2 ^ posE e → x <<< 1 < 2 ^ (posE e + 1) ∧ (x <<< 1).testBit 0 = false := fun x hx => by
    refine ⟨by have := shl_lt (m := 1) hx; rwa [Nat.add_comm] at this, ?_⟩
    rw [Nat.testBit_shiftLeft]; simp
  have hbh2 : (writeM (.mk 3 nm a b [e, e])).1.bh = dupB (posE e) (writeM e).1.bh := by
    rw [hw1, hw2]
    show _ = dup _ _ :: _
    simp only [shF, hl]
    congr 1
    · rw [dup_shl, Nat.shiftLeft_or_distrib, ← Nat.shiftLeft_add, Nat.add_comm (posE e) 1]
    · rw [List.map_append, List.map_map, List.map_map]
      congr 1
      refine List.map_congr_left fun x _ => ?_
      simp only [Function.comp]
      rw [← Nat.shiftLeft_add, ← Nat.shiftLeft_add, Nat.add_comm]
  have hends2 : (writeM (.mk 3 nm a b [e, e])).2 = dup (posE e) (writeM e).2 := by
    rw [hw1, hw2]
    simp only
    have e1 : (P.l ||| P.l <<< posE e) <<< 1 = dup (posE e) (P.l <<< 1) := by
      rw [dup_shl, Nat.shiftLeft_or_distrib, ← Nat.shiftLeft_add, Nat.add_comm (posE e) 1]
    split
    · rw [e1, ← dup_or (s1 _ h3.2).1 (Nat.one_lt_two_pow (by omega)), dup_one]
    · exact e1
  have hends1 : (writeM e).2 < 2 ^ (posE e + 1) := by
    rw [hw1]
    simp only
    split
    · exact Nat.or_lt_two_pow (s1 _ h3.2).1 (Nat.one_lt_two_pow (by omega))
    · exact (s1 _ h3.2).1
  have hns1 : (writeM e).1.ns = emS :: N := by rw [hw1]
  have hns2 : (writeM (.mk 3 nm a b [e, e])).1.ns = emS :: (N ++ N) := by rw [hw2]; rfl
  have hL := lettersM_twice gs emS N
  unfold makeM
  rw [hbh2, hends2, hns1, hns2, hL.1, hl]
  rw [hl] at hL
  have hbl1 : (writeM e).1.bh = P.f <<< 1 :: B.map (· <<< 1) := by rw [hw1]
  refine auto_dup ?_ ?_ (by omega) hL.2 hends1
  · rw [hbl1]; simp [hlb]
  · rw [hbl1]
    intro x hx
    rcases List.mem_cons.1 hx with rfl | hx
    · exact s1 _ h3.1
    · obtain ⟨y, hy, rfl⟩ := List.mem_map.1 hx
      exact s1 y (hbx y hy)
/-! ## perhaps it -/
theorem link_zero (f : Fm) (t : Nat) : linkM f 0 t = f := by
  unfold linkM
  have : bitsN 0 = [] := by unfold bitsN; simp
  rw [this]; rfl
theorem maybe_add (nm : ByteArray) (e : Ex) (f : Fm) : addM (.mk 4 nm 0 1 [e]) f = ((addM e f).1, ⟨(addM e f).2.f, (addM e f).2.l, true⟩) := by
  rw [addM, if_neg (by decide), if_neg (by decide), if_pos rfl, manM]
  simp only [Int.toNat_zero, repM]
  rw [if_neg (by decide)]
  show repM (addM e) true 1 ⟨0, 0, true⟩ f = _
  rw [repM, repM]
  unfold joinM
  simp [link_zero]
theorem make_maybe (nm nm' : ByteArray) (e : Ex) (gs : List Gr) : makeM (.mk 4 nm 0 1 [.mk 4 nm' 0 1 [e]]) gs = makeM (.mk 4 nm' 0 1 [e]) gs := by
  have : ∀ f, addM (.mk 4 nm 0 1 [.mk 4 nm' 0 1 [e]]) f = addM (.mk 4 nm' 0 1 [e]) f := fun f => by rw [maybe_add, maybe_add]
  unfold makeM writeM
  rw [this]
end Go.Proofs.YtkbileabkfccgaaGreatDoor

/- match: no two states of a machine are the same. Of no program. -/
namespace Go.Proofs.YtkbileabkfccgaaGreatDoor
open Go.RowKit

theorem ordT_perm (l : List ByteArray) : (ordT l).Perm l := List.mergeSort_perm _ _
theorem sortE_perm {l : List Ed} (h : (l.map Ed.t).Nodup) : (sortE l).Perm l := by
  have h1 : (edF (leadE l) (ordT (l.map Ed.t))).Perm (edF (leadE l) (l.map Ed.t)) := (ordT_perm _).map _
  rw [edF_lead l h] at h1
  exact h1
/-! ## no two states are the same -/
theorem numS_at (q : Nat → Int × Int) : ∀ (n i : Nat), i < n → q i ∈ (numS q n).1 ∧ (numS q n).2.getD i 0 = ((numS q n).1.idxOf (q i) : Nat)
  | n + 1, i, h => by
    have hlen := numS_len q n
    by_cases hi : i < n
    · obtain ⟨h1, h2⟩ := numS_at q n i hi
      rw [List.getD_eq_getElem?_getD] at h2
      rw [numS]
      split
      · refine ⟨h1, ?_⟩
        simp only
        rw [List.getD_eq_getElem?_getD, List.getElem?_append_left (by omega)]; exact h2
      · refine ⟨List.mem_append_left _ h1, ?_⟩
        simp only
        rw [List.getD_eq_getElem?_getD, List.getElem?_append_left (by omega), List.idxOf_append, if_pos h1]; exact h2
    · obtain rfl : i = n := by omega
      rw [numS]
      split
      · rename_i hm
        refine ⟨hm, ?_⟩
        simp only
        rw [List.getD_eq_getElem?_getD, List.getElem?_append_right (by omega), hlen]; simp
      · rename_i hm
        refine ⟨by simp, ?_⟩
        simp only
        rw [List.getD_eq_getElem?_getD, List.getElem?_append_right (by omega), hlen, List.idxOf_append, if_neg hm]; simp
theorem numS_iff {q : Nat → Int × Int} {n i j : Nat} (hi : i < n) (hj : j < n) : (numS q n).2.getD i 0 = (numS q n).2.getD j 0 ↔ q i = q j := by
  obtain ⟨a1, a2⟩ := numS_at q n i hi
  obtain ⟨b1, b2⟩ := numS_at q n j hj
  rw [a2, b2]
  constructor
  · intro h
    have h' : (numS q n).1.idxOf (q i) = (numS q n).1.idxOf (q j) := by omega
    have e1 := List.getElem_idxOf (List.idxOf_lt_length_iff.2 a1)
    have e2 := List.getElem_idxOf (List.idxOf_lt_length_iff.2 b1)
    rw [← e1, ← e2]
    congr 1
  · intro h; rw [h]
/-- where one tells no two apart, neither does the other -/
def Finer (n : Nat) (a b : List Int) : Prop := ∀ x y, x < n → y < n → a.getD x 0 = a.getD y 0 → b.getD x 0 = b.getD y 0
theorem Finer.refl (n : Nat) (a : List Int) : Finer n a a := fun _ _ _ _ h => h
theorem Finer.trans {n : Nat} {a b c : List Int} (h : Finer n a b) (k : Finer n b c) : Finer n a c := fun x y hx hy e => k x y hx hy (h x y hx hy e)
section
variable (t : Tb)
theorem one_fin (s : List Int × Nat) (k : Nat) : Finer t.sets.length (oneS t s k).1 s.1 := by
  intro x y hx hy h
  have := (numS_iff hx hy).1 h
  unfold q1 at this
  simp only [Prod.mk.injEq] at this
  exact this.1
theorem ones_fin : ∀ (l : List Nat) (s : List Int × Nat), Finer t.sets.length (l.foldl (oneS t) s).1 s.1
  | [], s => Finer.refl _ _
  | k :: l, s => by rw [List.foldl_cons]; exact (ones_fin l _).trans (one_fin t s k)
theorem merge_fin : ∀ (f b : Nat) (s : List Int × Nat), Finer t.sets.length (mergeF t f b s) s.1
  | 0, b, s => Finer.refl _ _
  | f + 1, b, s => by
    rw [mergeF]
    split
    · exact (merge_fin f _ _).trans (ones_fin t _ s)
    · exact Finer.refl _ _
/-- two sets lead by each letter to the same states -/
def Led (F : List Int) (i j : Nat) : Prop := ∀ k, k < t.ls.length → (toM t i k < 0 ∧ toM t j k < 0) ∨ (0 ≤ toM t i k ∧ 0 ≤ toM t j k ∧ F.getD (toM t i k).toNat 0 = F.getD (toM t j k).toNat 0)
variable (hto : ∀ i k, i < t.sets.length → k < t.ls.length → toM t i k < (t.sets.length : Int))
include hto
theorem ones_same {F : List Int} {i j : Nat} (hi : i < t.sets.length) (hj : j < t.sets.length) (hl : Led t F i j) :
    ∀ (l : List Nat) (s : List Int × Nat), (∀ k ∈ l, k < t.ls.length) → Finer t.sets.length F (l.foldl (oneS t) s).1 → s.1.getD i 0 = s.1.getD j 0 → (l.foldl (oneS t) s).1.getD i 0 = (l.foldl (oneS t) s).1.getD j 0
  | [], s, _, _, h => h
  | k :: l, s, hk, hF, h => by
    rw [List.foldl_cons] at hF ⊢
    refine ones_same hi hj hl l _ (fun x hx => hk x (by simp [hx])) hF ?_
    have hFs : Finer t.sets.length F s.1 := (hF.trans (ones_fin t l _)).trans (one_fin t s k)
    refine (numS_iff hi hj).2 ?_
    unfold q1
    rw [h]
    congr 1
    have hkl := hk k (by simp)
    rcases hl k hkl with ⟨a, b⟩ | ⟨a, b, c⟩
    · rw [if_neg (by omega), if_neg (by omega)]
    · rw [if_pos a, if_pos b]
      have hA := hto i k hi hkl
      have hB := hto j k hj hkl
      exact hFs _ _ (by omega) (by omega) c
theorem merge_same {i j : Nat} (hi : i < t.sets.length) (hj : j < t.sets.length) : ∀ (f b : Nat) (s : List Int × Nat), Led t (mergeF t f b s) i j → s.1.getD i 0 = s.1.getD j 0 → (mergeF t f b s).getD i 0 = (mergeF t f b s).getD j 0
  | 0, b, s, _, h => h
  | f + 1, b, s, hl, h => by
    rw [mergeF] at hl ⊢
    split
    · rename_i hb
      rw [if_pos hb] at hl
      refine merge_same hi hj f _ _ hl ?_
      exact ones_same t hto hi hj hl _ s (fun k hk => List.mem_range.1 hk) (merge_fin t f _ _) h
    · exact h
theorem mergeM_same {i j : Nat} (hi : i < t.sets.length) (hj : j < t.sets.length) (he : endM t i = endM t j) (hl : Led t (mergeM t) i j) : (mergeM t).getD i 0 = (mergeM t).getD j 0 := by
  refine merge_same t hto hi hj _ _ _ hl ?_
  refine (numS_iff hi hj).2 ?_
  unfold q0
  rw [he]
omit hto in
theorem auto_at : ∀ (n : Nat) (s : Nat) (hs : s < (autoK t (mergeM t) n).length), ∃ i, i < n ∧ (mergeM t).getD i 0 = (s : Int) ∧ (autoK t (mergeM t) n)[s] = stateM t (mergeM t) i
  | 0, s, hs => by simp [autoK] at hs
  | n + 1, s, hs => by
    have hsucc : autoK t (mergeM t) (n + 1) = autoS t (mergeM t) (autoK t (mergeM t) n) n := by unfold autoK; rw [List.range_succ, List.foldl_append]; rfl
    unfold autoS at hsucc
    split at hsucc
    · rename_i hm
      by_cases h : s < (autoK t (mergeM t) n).length
      · obtain ⟨i, h1, h2, h3⟩ := auto_at n s h
        refine ⟨i, by omega, h2, ?_⟩
        rw [← h3]
        simp only [hsucc]
        exact List.getElem_append_left h
      · have hlen : (autoK t (mergeM t) (n + 1)).length = (autoK t (mergeM t) n).length + 1 := by rw [hsucc]; simp
        obtain rfl : s = (autoK t (mergeM t) n).length := by omega
        refine ⟨n, by omega, hm, ?_⟩
        simp only [hsucc]
        simp
    · have h : s < (autoK t (mergeM t) n).length := by rw [← hsucc]; exact hs
      obtain ⟨i, h1, h2, h3⟩ := auto_at n s h
      refine ⟨i, by omega, h2, ?_⟩
      rw [← h3]
      simp only [hsucc]
omit hto in
theorem raw_mem {i : Nat} {ss : List Int} {e : Ed} : e ∈ rawE t i ss ↔ ∃ (k : Nat) (hk : k < t.ls.length), 0 ≤ toM t i k ∧ e.t ∈ t.ls[k].ts ∧ e.n = ss.getD (toM t i k).toNat 0 := by
  unfold rawE
  rw [List.mem_flatMap]
  constructor
  · rintro ⟨k, hk, he⟩
    rw [List.mem_range] at hk
    unfold pieceE at he
    split at he
    · rename_i h0
      rw [List.getElem?_eq_getElem hk] at he
      simp only [List.mem_map] at he
      obtain ⟨x, hx, rfl⟩ := he
      exact ⟨k, hk, h0, hx, rfl⟩
    · cases he
  · rintro ⟨k, hk, h0, h1, h2⟩
    refine ⟨k, List.mem_range.2 hk, ?_⟩
    unfold pieceE
    rw [if_pos h0, List.getElem?_eq_getElem hk]
    simp only [List.mem_map]
    exact ⟨e.t, h1, by rw [← h2]⟩
omit hto in
theorem flat_one : ∀ (ls : List Lt), (ls.flatMap Lt.ts).Nodup → ∀ (j k : Nat) (hj : j < ls.length) (hk : k < ls.length) (x : ByteArray), x ∈ ls[j].ts → x ∈ ls[k].ts → j = k
  | L :: ls, hn, j, k, hj, hk, x, h1, h2 => by
    rw [List.flatMap_cons, List.nodup_append] at hn
    cases j with
    | zero =>
      cases k with
      | zero => rfl
      | succ k =>
        rw [List.getElem_cons_zero] at h1
        rw [List.getElem_cons_succ] at h2
        exact absurd rfl (hn.2.2 x h1 x (List.mem_flatMap.2 ⟨_, List.getElem_mem _, h2⟩))
    | succ j =>
      cases k with
      | zero =>
        rw [List.getElem_cons_zero] at h2
        rw [List.getElem_cons_succ] at h1
        exact absurd rfl (hn.2.2 x h2 x (List.mem_flatMap.2 ⟨_, List.getElem_mem _, h1⟩))
      | succ k =>
        rw [List.getElem_cons_succ] at h1 h2
        rw [flat_one ls hn.2.1 j k (by simpa using hj) (by simpa using hk) x h1 h2]
omit hto in
theorem led_half {i j : Nat} {ss : List Int} (hn : (t.ls.flatMap Lt.ts).Nodup) (hne : ∀ L ∈ t.ls, L.ts ≠ []) (h : ∀ e, e ∈ rawE t i ss → e ∈ rawE t j ss) (k : Nat) (hk : k < t.ls.length) (h0 : 0 ≤ toM t i k) :
    0 ≤ toM t j k ∧ ss.getD (toM t i k).toNat 0 = ss.getD (toM t j k).toNat 0 := by
  obtain ⟨x, hx⟩ := List.exists_mem_of_ne_nil _ (hne _ (List.getElem_mem hk))
  obtain ⟨k', hk', g0, g1, g2⟩ := (raw_mem t).1 (h ⟨x, ss.getD (toM t i k).toNat 0⟩ ((raw_mem t).2 ⟨k, hk, h0, hx, rfl⟩))
  obtain rfl := flat_one t.ls hn k k' hk hk' x hx g1
  exact ⟨g0, g2⟩
/-- no two states end alike and lead to the same -/
theorem auto_least (hn : (t.ls.flatMap Lt.ts).Nodup) (hne : ∀ L ∈ t.ls, L.ts ≠ []) (hfi : ∀ i, i < t.sets.length → ((rawE t i (mergeM t)).map Ed.t).Nodup) (hml : (mergeM t).length = t.sets.length)
    {a b : Nat} (ha : a < (autoM t).length) (hb : b < (autoM t).length) (hab : a ≠ b) (h1 : (autoM t)[a].b = (autoM t)[b].b) (h2 : (autoM t)[a].es = (autoM t)[b].es) : False := by
  obtain ⟨i, hi, si, ei⟩ := auto_at t _ a ha
  obtain ⟨j, hj, sj, ej⟩ := auto_at t _ b hb
  rw [hml] at hi hj
  have ei' : (autoM t)[a] = stateM t (mergeM t) i := ei
  have ej' : (autoM t)[b] = stateM t (mergeM t) j := ej
  rw [ei', ej'] at h1 h2
  have hp : (rawE t i (mergeM t)).Perm (rawE t j (mergeM t)) := (sortE_perm (hfi i hi)).symm.trans (by
    have : sortE (rawE t i (mergeM t)) = sortE (rawE t j (mergeM t)) := h2
    rw [this]; exact sortE_perm (hfi j hj))
  have he : endM t i = endM t j := by
    have h1' : (endM t i == 1) = (endM t j == 1) := h1
    unfold endM at h1' ⊢
    split <;> split <;> simp_all
  have hled : Led t (mergeM t) i j := by
    intro k hk
    by_cases h0 : 0 ≤ toM t i k
    · obtain ⟨g0, g1⟩ := led_half t hn hne (fun e he => hp.mem_iff.1 he) k hk h0
      exact .inr ⟨h0, g0, g1⟩
    · by_cases h0' : 0 ≤ toM t j k
      · obtain ⟨g0, g1⟩ := led_half t hn hne (fun e he => hp.mem_iff.2 he) k hk h0'
        exact absurd g0 h0
      · exact .inl ⟨by omega, by omega⟩
  have := mergeM_same t hto hi hj he hled
  rw [si, sj] at this
  omega
end
end Go.Proofs.YtkbileabkfccgaaGreatDoor
