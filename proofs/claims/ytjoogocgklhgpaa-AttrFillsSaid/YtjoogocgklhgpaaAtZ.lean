/- attr: what follows, as mathematics: the order is one; what is filled fits, and filled again it is the same. -/
import Derived.Test.YtjoogocgklhgpaaAtV
namespace Go.Proofs.Ytjoogocgklhgpaa
open Go.RowKit

theorem cmpS_0 (a b : ByteArray) : cmpS a b = 0 ↔ a = b := by
  unfold cmpS
  constructor
  · intro h
    split at h
    · omega
    · split at h
      · omega
      · exact ltS_tri (by simpa using ‹¬ltS a b = true›) (by simpa using ‹¬ltS b a = true›)
  · rintro rfl; simp [ltS_irr]
theorem cmpS_neg (a b : ByteArray) : cmpS b a = - cmpS a b := by
  unfold cmpS
  cases h : ltS a b <;> cases k : ltS b a <;> simp
  have := ltS_asymm h; rw [k] at this; cases this
theorem cmpS_tri (a b : ByteArray) : cmpS a b = -1 ∨ cmpS a b = 0 ∨ cmpS a b = 1 := by
  unfold cmpS; split
  · simp
  · split <;> simp
theorem cmpS_lt (a b : ByteArray) : cmpS a b = -1 ↔ ltS a b = true := by
  unfold cmpS
  cases h : ltS a b <;> cases k : ltS b a <;> simp
def cmpAt (a b : At) : Int := if cmpS a.n b.n = 0 then cmpS a.v b.v else cmpS a.n b.n
theorem cmpAt_0 (a b : At) : cmpAt a b = 0 ↔ a = b := by
  unfold cmpAt
  constructor
  · intro h
    split at h
    · exact At.ext ((cmpS_0 _ _).1 ‹_›) ((cmpS_0 _ _).1 h)
    · exact absurd h ‹_›
  · rintro rfl; rw [if_pos ((cmpS_0 _ _).2 rfl)]; exact (cmpS_0 _ _).2 rfl
theorem cmpAt_neg (a b : At) : cmpAt b a = - cmpAt a b := by
  unfold cmpAt
  rw [cmpS_neg a.n b.n, cmpS_neg a.v b.v]
  by_cases h : cmpS a.n b.n = 0
  · rw [if_pos (by omega), if_pos h]
  · rw [if_neg (by omega), if_neg h]
theorem cmpAt_tri (a b : At) : cmpAt a b = -1 ∨ cmpAt a b = 0 ∨ cmpAt a b = 1 := by
  unfold cmpAt; split
  · exact cmpS_tri _ _
  · exact cmpS_tri _ _
theorem cmpS_trans {a b c : ByteArray} (h : cmpS a b = -1) (k : cmpS b c = -1) : cmpS a c = -1 := by
  rw [cmpS_lt] at *; exact ltS_trans h k
theorem cmpAt_trans {a b c : At} (h : cmpAt a b = -1) (k : cmpAt b c = -1) : cmpAt a c = -1 := by
  unfold cmpAt at *
  by_cases h1 : cmpS a.n b.n = 0
  · rw [if_pos h1] at h
    have e1 := (cmpS_0 _ _).1 h1
    rw [e1]
    by_cases h2 : cmpS b.n c.n = 0
    · rw [if_pos h2] at k ⊢; exact cmpS_trans h k
    · rw [if_neg h2] at k ⊢; exact k
  · rw [if_neg h1] at h
    by_cases h2 : cmpS b.n c.n = 0
    · have e2 := (cmpS_0 _ _).1 h2
      rw [← e2, if_neg h1]; exact h
    · rw [if_neg h2] at k
      have := cmpS_trans h k
      rw [if_neg (by omega)]; exact this

theorem cmpG_nil (m : List At) : cmpG [] m = if m.length = 0 then 0 else -1 := by
  rw [cmpG_end (fun j hj => by simp at hj)]
  unfold cmpI; simp
  cases m <;> simp <;> try omega
theorem cmpG_nil' (l : List At) : cmpG l [] = if l.length = 0 then 0 else 1 := by
  rw [cmpG_end (fun j _ hj => by simp at hj)]
  unfold cmpI; simp
  cases l <;> simp <;> try omega
theorem sgn_cons (a b : At) (l m : List At) (j : Nat) : sgn (a :: l) (b :: m) (j + 1) = sgn l m j := by
  simp [sgn, gA]
theorem sgn_0 (a b : At) (l m : List At) : orP (sgn (a :: l) (b :: m) 0) = cmpAt a b := by
  rw [sgn_eq (by simp) (by simp)]; rfl
theorem cmpG_cons (a b : At) (l m : List At) : cmpG (a :: l) (b :: m) = if cmpAt a b = 0 then cmpG l m else cmpAt a b := by
  have hs : ∀ k, sgns (a :: l) (b :: m) (k + 1) = sgn (a :: l) (b :: m) 0 ++ sgns l m k := by
    intro k
    induction k with
    | zero => simp [sgns]
    | succ k ih => rw [sgns_succ, ih, sgn_cons, List.append_assoc, ← sgns_succ]
  unfold cmpG
  rw [show min (a :: l).length (b :: m).length = min l.length m.length + 1 by simp only [List.length_cons]; omega, hs, List.append_assoc, orP_app, sgn_0]
  have e : cmpI ((a :: l).length : Int) ((b :: m).length : Int) = cmpI l.length m.length := by unfold cmpI; simp
  rw [e]
theorem cmpG_tri : ∀ (l m : List At), cmpG l m = -1 ∨ cmpG l m = 0 ∨ cmpG l m = 1
  | [], m => by rw [cmpG_nil]; split <;> simp
  | a :: l, [] => by rw [cmpG_nil']; simp
  | a :: l, b :: m => by
    rw [cmpG_cons]; split
    · exact cmpG_tri l m
    · exact cmpAt_tri a b
theorem cmpG_neg : ∀ (l m : List At), cmpG m l = - cmpG l m
  | [], m => by rw [cmpG_nil, cmpG_nil']; split <;> simp
  | a :: l, [] => by rw [cmpG_nil, cmpG_nil']; simp
  | a :: l, b :: m => by
    rw [cmpG_cons, cmpG_cons, cmpAt_neg a b]
    by_cases h : cmpAt a b = 0
    · rw [if_pos (by omega), if_pos h]; exact cmpG_neg l m
    · rw [if_neg (by omega), if_neg h]
theorem cmpG_0 : ∀ (l m : List At), cmpG l m = 0 ↔ l = m
  | [], m => by rw [cmpG_nil]; cases m <;> simp
  | a :: l, [] => by rw [cmpG_nil']; simp
  | a :: l, b :: m => by
    rw [cmpG_cons]
    by_cases h : cmpAt a b = 0
    · rw [if_pos h, cmpG_0 l m]
      have := (cmpAt_0 a b).1 h
      subst this
      simp
    · rw [if_neg h]
      constructor
      · intro k; exact absurd k h
      · intro k
        simp only [List.cons.injEq] at k
        exact absurd ((cmpAt_0 a b).2 k.1) h
theorem cmpG_le : ∀ (l m r : List At), cmpG l m ≤ 0 → cmpG m r ≤ 0 → cmpG l r ≤ 0
  | [], m, r => by intro _ _; rw [cmpG_nil]; split <;> omega
  | a :: l, [], r => by intro h; rw [cmpG_nil'] at h; simp at h
  | a :: l, b :: m, [] => by intro _ h; rw [cmpG_nil'] at h; simp at h
  | a :: l, b :: m, c :: r => by
    rw [cmpG_cons, cmpG_cons, cmpG_cons]
    intro h k
    by_cases h1 : cmpAt a b = 0
    · have e := (cmpAt_0 a b).1 h1
      subst e
      rw [if_pos h1] at h
      by_cases h2 : cmpAt a c = 0
      · rw [if_pos h2] at k ⊢; exact cmpG_le l m r h k
      · rw [if_neg h2] at k ⊢; exact k
    · rw [if_neg h1] at h
      by_cases h2 : cmpAt b c = 0
      · have e := (cmpAt_0 b c).1 h2
        subst e
        rw [if_neg h1]; exact h
      · rw [if_neg h2] at k
        have h1' : cmpAt a b = -1 := by rcases cmpAt_tri a b with h' | h' | h' <;> omega
        have h2' : cmpAt b c = -1 := by rcases cmpAt_tri b c with h' | h' | h' <;> omega
        have := cmpAt_trans h1' h2'
        rw [if_neg (by omega)]; omega

/-! ## Fill -/
theorem okK_iff (l : List At) (k : Nat) (hk : k < l.length) : okK l k = true ↔ (∀ (h : 0 < k), ltS (l[k - 1]'(by omega)).n l[k].n = true) ∧ nameB l[k].n = true ∧ valueB l[k].v = true := by
  unfold okK riseB
  rw [gA_get l k hk, gA_get l (k - 1) (by omega)]
  by_cases h : k = 0
  · subst h; simp
  · simp [h, show 0 < k by omega, and_assoc]
theorem checkN_0 (l : List At) : checkN l = 0 ↔ l.length ≤ 8 ∧ ∀ k, k < l.length → okK l k = true := by
  constructor
  · intro h; exact ⟨checkN_len h, fun k hk => okL_at (checkN_ok h) hk⟩
  · rintro ⟨h, k⟩
    unfold checkN
    rw [if_neg, if_pos (okL_yes k)]
    rintro (h1 | h1)
    · omega
    · obtain ⟨a, ha, hl⟩ := List.any_eq_true.1 h1
      obtain ⟨j, hj, rfl⟩ := List.mem_iff_getElem.1 ha
      have := (okK_iff l j hj).1 (k j hj)
      unfold longB at hl
      unfold nameB valueB at this
      simp at hl this
      omega
theorem getP_uniq {l : List At} (h : checkN l = 0) {k : Nat} (hk : k < l.length) : getP l l[k].n = some l[k].v :=
  getP_at hk (by simp [hasN]) fun j hj hjk => by unfold hasN; exact ne_of_lt (rise h hjk hk)
theorem getP_mem {l : List At} {n x : ByteArray} (h : getP l n = some x) : ∃ a ∈ l, a.n = n ∧ a.v = x := by
  unfold getP at h
  rw [Option.map_eq_some_iff] at h
  obtain ⟨a, ha, rfl⟩ := h
  have hh : hasN n a = true := List.find?_some ha
  exact ⟨a, List.mem_of_find?_eq_some ha, (eqS_iff a.n n).1 hh, rfl⟩
theorem pigeon {T : Type} [DecidableEq T] : ∀ (A B : List T), A.Nodup → (∀ a ∈ A, a ∈ B) → B.length ≤ A.length → ∀ b ∈ B, b ∈ A
  | [], B, _, _, h, b, hb => by
    have : B = [] := List.eq_nil_of_length_eq_zero (by simpa using h)
    rw [this] at hb; cases hb
  | a :: A, B, hn, hs, h, b, hb => by
    rw [List.nodup_cons] at hn
    by_cases e : b = a
    · subst e; simp
    · have hA : a ∈ B := hs a (by simp)
      refine List.mem_cons_of_mem _ (pigeon A (B.erase a) hn.2 (fun x hx => ?_) ?_ b ((List.mem_erase_of_ne e).2 hb))
      · have hne : x ≠ a := by rintro rfl; exact hn.1 hx
        exact (List.mem_erase_of_ne hne).2 (hs x (by simp [hx]))
      · rw [List.length_erase_of_mem hA]; simp at h; omega
theorem namesNodup {l : List At} (h : checkN l = 0) : (l.map (·.n)).Nodup := by
  rw [List.nodup_iff_pairwise_ne, List.pairwise_iff_getElem]
  intro i j hi hj hij
  simp only [List.getElem_map]
  have := rise h hij (by simpa using hj)
  intro e; rw [e, ltS_irr] at this; cases this

section
variable {p : List Sp} {l : List At}
theorem fill0 (h : fillE p l = 0) : specN p = 0 ∧ checkN l = 0 ∧ p.any (miss l) = false ∧ l.length ≤ p.countP (hit l) := by
  unfold fillE at h
  split at h
  · split at h
    · split at h
      · omega
      · rename_i h1 h2 h3
        refine ⟨h1, h2, ?_, ?_⟩
        · cases hh : p.any (miss l)
          · rfl
          · exact absurd (.inl hh) h3
        · rcases Nat.lt_or_ge (p.countP (hit l)) l.length with hh | hh
          · exact absurd (.inr hh) h3
          · exact hh
    · exact absurd h ‹_›
  · exact absurd h ‹_›
theorem fillL_0 (h : fillE p l = 0) : fillL p l = p.map (one l) := by unfold fillL; rw [if_pos h]
theorem fillL_n (h : fillE p l ≠ 0) : fillL p l = [] := by unfold fillL; rw [if_neg h]
theorem val_ok (hp : specN p = 0) (hl : checkN l = 0) {k : Nat} (hk : k < p.length) : valueB ((getP l p[k].n).getD p[k].d) = true := by
  cases hg : getP l p[k].n with
  | none =>
    have := (okK_iff _ k (by simpa using hk)).1 (((checkN_0 _).1 (specN_ok hp)).2 k (by simpa using hk))
    simpa [fillOf] using this.2.2
  | some x =>
    obtain ⟨a, ha, _, rfl⟩ := getP_mem hg
    obtain ⟨j, hj, rfl⟩ := List.mem_iff_getElem.1 ha
    exact ((okK_iff l j hj).1 (((checkN_0 l).1 hl).2 j hj)).2.2
theorem filled_ok (h : fillE p l = 0) : checkN (p.map (one l)) = 0 := by
  obtain ⟨h1, h2, _, _⟩ := fill0 h
  have hs := (checkN_0 _).1 (specN_ok h1)
  rw [checkN_0]
  refine ⟨by simpa using hs.1, fun k hk => ?_⟩
  have hk' : k < p.length := by simpa using hk
  rw [okK_iff _ k hk]
  have := (okK_iff _ k (by simpa using hk')).1 (hs.2 k (by simpa using hk'))
  simp only [List.getElem_map, fillOf, one] at this ⊢
  exact ⟨this.1, this.2.1, val_ok h1 h2 hk'⟩
theorem filled_get (h : fillE p l = 0) {k : Nat} (hk : k < p.length) : getP (p.map (one l)) p[k].n = some ((getP l p[k].n).getD p[k].d) := by
  have := getP_uniq (filled_ok h) (k := k) (by simpa using hk)
  simpa [one] using this
theorem filled_again (h : fillE p l = 0) : fillE p (p.map (one l)) = 0 ∧ fillL p (p.map (one l)) = p.map (one l) := by
  obtain ⟨h1, h2, _, _⟩ := fill0 h
  have hh : ∀ s ∈ p, hit (p.map (one l)) s = true := by
    intro s hs
    obtain ⟨k, hk, rfl⟩ := List.mem_iff_getElem.1 hs
    unfold hit; rw [filled_get h hk]; rfl
  have := fillE_0 (p := p) (l := p.map (one l)) h1 (filled_ok h) (by
    rw [List.any_eq_false]; intro s hs; simp [miss, hh s hs]) (by
    rw [List.length_map, List.countP_eq_length.2 hh]; exact Nat.le_refl _)
  refine ⟨this.1, this.2.trans ?_⟩
  apply List.map_congr_left
  intro s hs
  obtain ⟨k, hk, rfl⟩ := List.mem_iff_getElem.1 hs
  have e : one (p.map (one l)) p[k] = ⟨p[k].n, (getP (p.map (one l)) p[k].n).getD p[k].d⟩ := rfl
  rw [e, filled_get h hk]; rfl
theorem filled_fits (h : fillE p l = 0) : fitB p (p.map (one l)) = true := by
  obtain ⟨h1, _, _, _⟩ := fill0 h
  unfold fitB
  rw [h1, filled_ok h]
  simp only [decide_true, Bool.true_and]
  refine eqN_yes (by simp) fun k hk => ?_
  unfold nmK
  rw [gS_get p k (by simpa using hk), gA_get _ k hk]
  simp [one]
theorem filled_all (h : fillE p l = 0) {i : Nat} (hi : i < l.length) : getP (p.map (one l)) l[i].n = some l[i].v := by
  obtain ⟨h1, h2, h3, h4⟩ := fill0 h
  have hnd : ((p.filter (hit l)).map (·.n)).Nodup := by
    have := namesNodup (specN_ok h1)
    rw [List.map_map] at this
    exact (List.Sublist.map _ List.filter_sublist).nodup this
  have hsub : ∀ a ∈ (p.filter (hit l)).map (·.n), a ∈ l.map (·.n) := by
    intro a ha
    obtain ⟨s, hs, rfl⟩ := List.mem_map.1 ha
    have hh := (List.mem_filter.1 hs).2
    unfold hit at hh
    obtain ⟨x, hx⟩ := Option.isSome_iff_exists.1 hh
    obtain ⟨a, ha, hn, _⟩ := getP_mem hx
    exact List.mem_map.2 ⟨a, ha, hn⟩
  have := pigeon _ _ hnd hsub (by rw [List.length_map, List.length_map, ← List.countP_eq_length_filter]; exact h4) l[i].n (List.mem_map.2 ⟨l[i], List.getElem_mem hi, rfl⟩)
  obtain ⟨s, hs, hn⟩ := List.mem_map.1 this
  obtain ⟨k, hk, rfl⟩ := List.mem_iff_getElem.1 (List.mem_filter.1 hs).1
  have hn : p[k].n = l[i].n := hn
  rw [← hn, filled_get h hk, hn, getP_uniq h2 hi]
  rfl
end
end Go.Proofs.Ytjoogocgklhgpaa
