/- MbA, MbB, merged. -/
import Derived.Test.YtkbileabkfccgaaGreatDoorCz12
import Derived.Test.YtkbileabkfccgaaGreatDoorCz16
import Derived.Test.YtkbileabkfccgaaGreatDoorCz17
import Derived.Test.YtkbileabkfccgaaGreatDoorCz19
import Derived.Test.YtkbileabkfccgaaGreatDoorCz08

/- match: what an expression that may be tells of its spots. Of no program. -/
namespace Go.Proofs.YtkbileabkfccgaaGreatDoor
open Go.RowKit

theorem check_parts {e : Ex} (h : checkE e = 0) : deepN 16 e = false ∧ e.anyE longE = false ∧ sizeN e ≤ 24 ∧ e.anyE wrongB = false := by
  unfold checkE at h
  cases h1 : deepN 16 e <;> cases h2 : e.anyE longE <;> cases h4 : e.anyE wrongB <;> by_cases h3 : 24 < sizeN e <;> simp [h1, h2, h3, h4] at h
  exact ⟨rfl, rfl, by omega, rfl⟩
theorem any_kid {p : Ex → Bool} {e : Ex} (h : e.anyE p = false) : ∀ x ∈ e.l, x.anyE p = false := by
  rw [anyE_eq, Bool.or_eq_false_iff, List.any_eq_false] at h
  intro x hx
  simpa using h.2 x hx
theorem any_self {p : Ex → Bool} {e : Ex} (h : e.anyE p = false) : p e = false := by
  rw [anyE_eq, Bool.or_eq_false_iff] at h; exact h.1
/-- what counts of one of kind 4 that may be -/
theorem wrong_many {n : ByteArray} {a b : Int} {l : List Ex} (h : wrongB (.mk 4 n a b l) = false) : (∃ x, l = [x]) ∧ 0 ≤ a ∧ (b = -1 ∨ (a ≤ b ∧ 1 ≤ b)) := by
  have h : (!emptyB n || (!timesB a b || (!decide (l.length = 1) || l.any nilB))) = false := h
  simp only [Bool.or_eq_false_iff, Bool.not_eq_false'] at h
  obtain ⟨_, h2, h3, _⟩ := h
  unfold timesB at h2
  simp at h2 h3
  refine ⟨?_, by omega, by omega⟩
  match l, h3 with
  | [x], _ => exact ⟨x, rfl⟩
theorem wrong_kind {e : Ex} (h : wrongB e = false) : e.k = 1 ∨ e.k = 2 ∨ e.k = 3 ∨ e.k = 4 := by
  unfold wrongB at h
  by_cases h1 : e.k = 1
  · exact .inl h1
  by_cases h2 : e.k = 2
  · exact .inr (.inl h2)
  by_cases h3 : e.k = 3
  · exact .inr (.inr (.inl h3))
  by_cases h4 : e.k = 4
  · exact .inr (.inr (.inr h4))
  · rw [if_neg h1, if_neg h2, if_neg h3, if_neg h4] at h; cases h
theorem wf_of {e : Ex} (hw : e.anyE wrongB = false) (hl : e.anyE longE = false) : Wf e := by
  induction e using Ex.ind with
  | h k n a b l ih =>
    unfold Wf
    rw [anyE_eq, Bool.or_eq_false_iff, List.any_eq_false]
    refine ⟨?_, fun x hx => by
      have := ih x hx (any_kid hw x hx) (any_kid hl x hx)
      unfold Wf at this
      simp [this]⟩
    have h1 := any_self hw
    have h2 := any_self hl
    unfold oddE
    by_cases h4 : k = 4
    · subst h4
      obtain ⟨⟨x, rfl⟩, ha, hb⟩ := wrong_many h1
      have h3 : (decide (16 < n.size) || decide (16 < a) || decide (16 < b)) = false := h2
      simp at h3
      show (decide ((4 : Int) = 4) && !(decide ([x].length = 1) && decide (0 ≤ a) && (decide (b = -1) || decide (a ≤ b)) && decide (a ≤ 1000) && decide (b ≤ 1000))) = false
      have e1 : decide (0 ≤ a) = true := by simpa using ha
      have e2 : decide (a ≤ 1000) = true := by simp; omega
      have e3 : decide (b ≤ 1000) = true := by simp; omega
      have e4 : (decide (b = -1) || decide (a ≤ b)) = true := by simp; omega
      rw [e1, e2, e3, e4]; rfl
    · simp [Ex.k, h4]
theorem size_pos (e : Ex) : e.anyE wrongB = false → e.sizeE = min (posE e : Int) exMost := by
  induction e using Ex.ind with
  | h k n a b l ih =>
    intro hw
    have hs := any_self hw
    have hl : ∀ (m : List Ex), (∀ x ∈ m, x.sizeE = min (posE x : Int) exMost) → ∀ (s : Nat), Ex.sizeL (min (s : Int) exMost) m = min ((s + posL m : Nat) : Int) exMost := by
      intro m
      induction m with
      | nil => intro _ s; rw [Ex.sizeL, posL]; rfl
      | cons x m ihm =>
        intro hm s
        rw [Ex.sizeL, posL, hm x (by simp)]
        have := ihm (fun y hy => hm y (by simp [hy])) (s + posE x)
        rw [Nat.add_assoc] at this
        rw [← this]
        congr 1
        unfold exMost
        omega
    have h0 := hl l (fun x hx => ih x hx (any_kid hw x hx)) 0
    have e0 : min ((0 : Nat) : Int) exMost = 0 := by decide
    rw [e0, Nat.zero_add] at h0
    rw [Ex.sizeE]
    rcases wrong_kind hs with h | h | h | h <;> simp only [Ex.k] at h <;> subst h
    · rw [if_pos rfl, show posE (.mk 1 n a b l) = 1 from by unfold posE; rw [if_neg (by decide), if_neg (by decide)]]; decide
    · rw [if_neg (by decide), if_pos (by decide), show posE (.mk 2 n a b l) = posL l from by unfold posE; rw [if_pos (by decide)]]; exact h0
    · rw [if_neg (by decide), if_pos (by decide), show posE (.mk 3 n a b l) = posL l from by unfold posE; rw [if_pos (by decide)]]; exact h0
    · obtain ⟨⟨x, rfl⟩, ha, hb⟩ := wrong_many hs
      have hp : posE (.mk 4 n a b [x]) = (if b = -1 then a.toNat + 1 else a.toNat + (b - a).toNat) * posE x := rfl
      rw [if_neg (by decide), if_neg (by decide), h0, hp]
      rw [posL, posL, Nat.add_zero]
      generalize posE x = P
      have key : ∀ m : Nat, 1 ≤ m → min (min (P : Int) exMost * (m : Int)) exMost = min ((m * P : Nat) : Int) exMost := by
        intro m hm
        have e1 : ((m * P : Nat) : Int) = (P : Int) * (m : Int) := by rw [Int.natCast_mul, Int.mul_comm]
        rw [e1]
        by_cases hp : (P : Int) ≤ exMost
        · rw [Int.min_eq_left hp]
        · have h1 : exMost ≤ exMost * (m : Int) := by
            have := Int.mul_le_mul_of_nonneg_left (show (1 : Int) ≤ m by omega) (show 0 ≤ exMost by decide)
            simpa using this
          have h2 : exMost * (m : Int) ≤ (P : Int) * (m : Int) := Int.mul_le_mul_of_nonneg_right (by omega) (by omega)
          rw [Int.min_eq_right (show exMost ≤ (P : Int) by omega)]
          omega
      by_cases hb1 : b = -1
      · rw [if_pos hb1, if_pos hb1]
        have := key (a.toNat + 1) (by omega)
        have e2 : ((a.toNat + 1 : Nat) : Int) = a + 1 := by omega
        rw [e2] at this; exact this
      · rw [if_neg hb1, if_neg hb1]
        have h5 : a.toNat + (b - a).toNat = b.toNat := by omega
        rw [h5]
        have := key b.toNat (by omega)
        have e2 : ((b.toNat : Nat) : Int) = b := by omega
        rw [e2] at this; exact this
theorem check_pos {e : Ex} (h : checkE e = 0) : Wf e ∧ posE e ≤ 24 := by
  obtain ⟨_, h2, h3, h4⟩ := check_parts h
  refine ⟨wf_of h4 h2, ?_⟩
  have hs := size_pos e h4
  unfold sizeN at h3
  split at h3
  · unfold exMost at h3; omega
  · rw [hs] at h3; unfold exMost at h3; omega
/-! ## how many types -/
theorem put_len {κ ν : Type} [DecidableEq κ] (l : List (κ × ν)) (k : κ) (v : ν) : (putA l k v).length ≤ l.length + 1 := by
  unfold putA; split <;> simp
theorem steps_len (k : Nat) : ∀ (ts : List ByteArray) (m : List (ByteArray × Nat)), (ts.foldl (atStep k) m).length ≤ m.length + ts.length
  | [], m => by simp
  | t :: ts, m => by
    rw [List.foldl_cons, List.length_cons]
    have h1 := steps_len k ts (atStep k m t)
    have h2 := put_len m t ((lookA m t).getD 0 ||| 2 ^ (k + 1))
    have h3 : (atStep k m t).length ≤ m.length + 1 := h2
    omega
theorem stands_len {gs : List Gr} {M : Nat} (hM : 1 ≤ M) (h : ∀ g ∈ gs, g.ts.length ≤ M) (n : ByteArray) : (standsM n gs).length ≤ M := by
  unfold standsM
  split
  · rename_i g hg; exact h g (List.mem_of_find?_eq_some hg)
  · simpa using hM
theorem atM_len {gs : List Gr} {M : Nat} (hM : 1 ≤ M) (h : ∀ g ∈ gs, g.ts.length ≤ M) (ns : List ByteArray) : (atM ns gs).length ≤ (ns.length - 1) * M := by
  unfold atM
  have : ∀ (l : List Nat) (m : List (ByteArray × Nat)), (l.foldl (atRow gs ns) m).length ≤ m.length + l.length * M := by
    intro l
    induction l with
    | nil => intro m; simp
    | cons i l ih =>
      intro m
      rw [List.foldl_cons, List.length_cons, Nat.succ_mul]
      have h1 := ih (atRow gs ns m i)
      have h2 : (atRow gs ns m i).length ≤ m.length + (standsM (ns.getD (i + 1) .empty) gs).length := steps_len _ _ _
      have h3 := stands_len hM h (ns.getD (i + 1) .empty)
      omega
  have h := this (List.range (ns.length - 1)) []
  simpa using h
theorem stands_sizes {gs : List Gr} {M : Nat} {n : ByteArray} (hn : n.size ≤ M) (h : ∀ g ∈ gs, ∀ t ∈ g.ts, t.size ≤ M) : ∀ t ∈ standsM n gs, t.size ≤ M := by
  unfold standsM
  split
  · rename_i g hg; exact h g (List.mem_of_find?_eq_some hg)
  · intro t ht; simp at ht; subst ht; exact hn
end Go.Proofs.YtkbileabkfccgaaGreatDoor

/- match: Make. -/
namespace Go.Proofs.YtkbileabkfccgaaGreatDoor
open Go.RowKit

/-- the machine of an expression -/
def makeM (e : Ex) (gs : List Gr) : List St := autoM (foundT (writeM e).1.bh (writeM e).2 (lettersM (writeM e).1.ns gs))
def groupsE (gs : List Gr) : Int := if gs.any longG then 3 else if gs.any wrongG || twiceG gs then 2 else 0
def makeC (e : Ex) (gs : List Gr) : Int := orM [checkE e, groupsE gs]
def makeL (e : Ex) (gs : List Gr) : List St := if makeC e gs = 0 then makeM e gs else []
theorem makeC_zero {e : Ex} {gs : List Gr} (h : makeC e gs = 0) : checkE e = 0 ∧ groupsE gs = 0 := by
  unfold makeC orM at h
  by_cases h1 : checkE e = 0
  · by_cases h2 : groupsE gs = 0
    · exact ⟨h1, h2⟩
    · simp [h1, h2] at h
  · simp [h1] at h
/-- groups that can be gone over -/
structure GFine (gs : List Gr) : Prop where
  n : ∀ g ∈ gs, g.ts.length ≤ 1048576
  s : ∀ g ∈ gs, ∀ t ∈ g.ts, t.size ≤ maxLen
  l : gs.length ≤ 1000000000000
/-- what Make hands back: new -/
def MkR (w : World) (e : Ex) (gs : List Gr) (x : Ending) (w' : World) : Prop :=
  ∃ v, x = .returned (.tuple #[auV v, .int .i64 (makeC e gs)]) ∧ Sts w' w'.heap.size v (makeL e gs) ∧ Below w.heap.size w w'
theorem rep_names {g : Fm → Fm × Pa} {Q : ByteArray → Prop} (hg : ∀ f, (∀ n ∈ f.ns, Q n) → ∀ n ∈ (g f).1.ns, Q n) (opt : Bool) : ∀ (k : Nat) (all : Pa) (f : Fm), (∀ n ∈ f.ns, Q n) → ∀ n ∈ (repM g opt k all f).1.ns, Q n
  | 0, all, f, h => h
  | k + 1, all, f, h => by rw [repM]; exact rep_names hg opt k _ _ (hg f h)
theorem names_of (e : Ex) : e.anyE longE = false → ∀ f : Fm, (∀ n ∈ f.ns, n.size ≤ 16) → ∀ n ∈ (addM e f).1.ns, n.size ≤ 16 := by
  induction e using Ex.ind with
  | h k nm a b l ih =>
    intro hl f hf
    have hk := any_kid hl
    have hrow : ∀ (m : List Ex), (∀ x ∈ m, ∀ f : Fm, (∀ n ∈ f.ns, n.size ≤ 16) → ∀ n ∈ (addM x f).1.ns, n.size ≤ 16) → ∀ (all : Pa) (f : Fm), (∀ n ∈ f.ns, n.size ≤ 16) → ∀ n ∈ (rowM m all f).1.ns, n.size ≤ 16 := by
      intro m
      induction m with
      | nil => intro _ all f h; rw [rowM]; exact h
      | cons x m ihm => intro hm all f h; rw [rowM]; exact ihm (fun y hy => hm y (by simp [hy])) _ _ (hm x (by simp) f h)
    have hcho : ∀ (m : List Ex), (∀ x ∈ m, ∀ f : Fm, (∀ n ∈ f.ns, n.size ≤ 16) → ∀ n ∈ (addM x f).1.ns, n.size ≤ 16) → ∀ (all : Pa) (f : Fm), (∀ n ∈ f.ns, n.size ≤ 16) → ∀ n ∈ (choM m all f).1.ns, n.size ≤ 16 := by
      intro m
      induction m with
      | nil => intro _ all f h; rw [choM]; exact h
      | cons x m ihm => intro hm all f h; rw [choM]; exact ihm (fun y hy => hm y (by simp [hy])) _ _ (hm x (by simp) f h)
    have ih' := fun x hx => ih x hx (hk x hx)
    rw [addM]
    split
    · exact hrow l ih' _ _ hf
    split
    · exact hcho l ih' _ _ hf
    split
    · cases l with
      | nil => rw [manM]; exact hf
      | cons x l =>
        have hx := ih' x (by simp)
        rw [manM]
        simp only
        split
        · exact hx _ (rep_names hx false _ _ _ hf)
        · exact rep_names hx true _ _ _ (rep_names hx false _ _ _ hf)
    · intro n hn
      unfold spotM at hn
      rcases List.mem_append.1 hn with hn | hn
      · exact hf n hn
      · simp at hn; rw [hn]; have h := any_self hl; have h1 : (decide (16 < nm.size) || decide (16 < a) || decide (16 < b)) = false := h; simp at h1; omega
theorem write_names {e : Ex} (h : e.anyE longE = false) : ∀ n ∈ (writeM e).1.ns, n.size ≤ 16 := by
  have h0 : ∀ n ∈ (spotM ⟨[], []⟩ emS).1.ns, n.size ≤ 16 := by
    intro n hn
    have : (spotM ⟨[], []⟩ emS).1.ns = [emS] := rfl
    rw [this] at hn
    simp at hn; subst hn; decide
  exact names_of e h _ h0

set_option maxRecDepth 100000 in
theorem au2_ret {W : World} {b : Nat} {v : Value} {m : Int} {fn : Func} {a : Act} {R : Ending → World → Prop} (s q : Nat) (hf : fn.results = #[.cell s 29, .tmp q]) (h2 : a.tmps.getD s undef = .pointer (some ⟨b, 0, none⟩)) (h3 : a.tmps.getD q undef = .int .i64 m) (hd : a.defers = [])
    (hk : Bk W b 29 #[v]) (hR : R (.returned (.tuple #[auV v, .int .i64 m])) W) : bodyPost Tryz.prog fn R .ret a W := by
  have x0 := hk.cell 0
  simp at x0
  refine bodyPost_ret (v := .tuple #[.agg #[v], .int .i64 m]) ?_ hd hR
  obtain ⟨tmps, defers⟩ := a
  have e2 : tmps[s]?.getD undef = .pointer (some ⟨b, 0, none⟩) := by simpa using h2
  have e3 : tmps[q]?.getD undef = .int .i64 m := by simpa using h3
  simp [results, hf, e2, e3, go_sem, x0]

set_option maxRecDepth 100000 in
set_option maxHeartbeats 3200000 in
theorem Make_any (e : Ex) (s vg : Value) (gs : List Gr) (B : Nat) (w : World) (hs : Kb w B s e.l) (hg : Grs w B vg gs) (hB : B ≤ w.heap.size) (hB0 : 0 < B) (hT : Tab w) (hG : GFine gs) :
    Calls Tryz.prog 6 #[exV e s, vg] w (MkR w e gs) := by
  obtain ⟨A, cap, rfl⟩ := hs.form
  obtain ⟨w0, rfl⟩ : ∃ w0 : World, w0 = w := ⟨_, rfl⟩
  have HB1 := Lib.hid (box2 w0 (.cells #[.int .i64 e.k, .string e.n, .int .i64 e.a, .int .i64 e.b, .slice A e.l.length cap] 24) (.cells #[.slice none 0 0] 29))
  have HK0 := Lib.hid ((Bk.new w0 24 #[.int .i64 e.k, .string e.n, .int .i64 e.a, .int .i64 e.b, .slice A e.l.length cap]).all (box1 _ (.cells #[.slice none 0 0] 29)))
  have HA0 := Lib.hid (bkNew1 w0 (.cells #[.int .i64 e.k, .string e.n, .int .i64 e.a, .int .i64 e.b, .slice A e.l.length cap] 24) 29 #[.slice none 0 0])
  obtain ⟨W1, HW1⟩ : ∃ W1 : World, Hid (W1 = (w0.alloc (.cells #[.int .i64 e.k, .string e.n, .int .i64 e.a, .int .i64 e.b, .slice A e.l.length cap] 24)).alloc (.cells #[.slice none 0 0] 29)) := ⟨_, Lib.hid rfl⟩
  have hz1 : Hid (W1.heap.size = w0.heap.size + 2) := by show _ = _; rw [HW1.out]; simp
  rw [← HW1.out] at HB1 HK0 HA0
  have HS1 : Hid (Kb W1 B (.slice A e.l.length cap) e.l) := hs.below (HB1.out.mono hB)
  have HG1 : Hid (Grs W1 B vg gs) := hg.below (HB1.out.mono hB)
  have HT1 : Hid (Tab W1) := hT.all HB1.out
  have CC := Lib.hid (Check_any e (.slice A e.l.length cap) B W1 HS1.out (by have := hz1.out; omega))
  clear hs hg hT
  unfold exV at CC ⊢
  go_enter Tryz.func6, Tryz.ntmps6
  go_wp2_with fail
  rw [← HW1.out]
  refine CC.out.mono ?_
  rintro x w1 ⟨rfl, hb1⟩
  have hs1 := hb1.size
  have hz1' := hz1.out
  obtain ⟨c, HC⟩ : ∃ c, Hid (c = checkE e) := ⟨checkE e, Lib.hid rfl⟩
  rw [← HC.out]
  have HK1 := Lib.hid (HK0.out.all hb1)
  have HA1 := Lib.hid (HA0.out.all hb1)
  have HBa : Hid (Below w0.heap.size w0 w1) := HB1.out.trans (hb1.mono (by omega))
  have HS2 : Hid (Kb w1 B (.slice A e.l.length cap) e.l) := HS1.out.below (hb1.mono (by omega))
  have HG2 : Hid (Grs w1 B vg gs) := HG1.out.below (hb1.mono (by omega))
  have HT2 : Hid (Tab w1) := HT1.out.all hb1
  have CG := Lib.hid (checkGroups_any vg gs B w1 HG2.out (by omega) hG.l)
  obtain ⟨g, HGE⟩ : ∃ g, Hid (g = groupsE gs) := ⟨groupsE gs, Lib.hid rfl⟩
  have HGE2 : Hid ((if gs.any longG then 3 else if gs.any wrongG || twiceG gs then 2 else 0) = g) := HGE.out.symm
  rw [HGE2.out] at CG
  clear CC hb1 HK0 HA0 HB1 HS1 HG1 HT1 HW1
  go_wp2_with fail
  refine CG.out.mono ?_
  rintro x w2 ⟨rfl, hb2⟩
  have hs2 := hb2.size
  have HK2 := Lib.hid ((HK1.out.all hb2).all (box1 w2 (.cells #[.int .i64 c, .int .i64 g] 30)))
  have HA2 := Lib.hid ((HA1.out.all hb2).all (box1 w2 (.cells #[.int .i64 c, .int .i64 g] 30)))
  have HBb : Hid (Below w0.heap.size w0 (w2.alloc (.cells #[.int .i64 c, .int .i64 g] 30))) := (HBa.out.trans (hb2.mono (by omega))).trans ((box1 w2 _).mono (by omega))
  have HS3 : Hid (Kb (w2.alloc (.cells #[.int .i64 c, .int .i64 g] 30)) B (.slice A e.l.length cap) e.l) := (HS2.out.below (hb2.mono (by omega))).below ((box1 w2 _).mono (by omega))
  have HG3 : Hid (Grs (w2.alloc (.cells #[.int .i64 c, .int .i64 g] 30)) B vg gs) := (HG2.out.below (hb2.mono (by omega))).below ((box1 w2 _).mono (by omega))
  have HT3 : Hid (Tab (w2.alloc (.cells #[.int .i64 c, .int .i64 g] 30))) := (HT2.out.all hb2).all (box1 w2 _)
  have CO := Lib.hid (or_any [c, g] (.slice (some ⟨w2.heap.size, 0, none⟩) 2 2) (w2.heap.size + 1) (w2.alloc (.cells #[.int .i64 c, .int .i64 g] 30)) (Rd.lit w2 30 1 2 #[.int .i64 c, .int .i64 g] (0, 0) rfl (by omega)) (by simp))
  obtain ⟨m, HM⟩ : ∃ m, Hid (m = makeC e gs) := ⟨makeC e gs, Lib.hid rfl⟩
  have HM2 : Hid (orM [c, g] = m) := by show _ = _; rw [HM.out, HC.out, HGE.out]; rfl
  rw [HM2.out] at CO
  have hz3 : (w2.alloc (.cells #[.int .i64 c, .int .i64 g] 30)).heap.size = w2.heap.size + 1 := by simp
  obtain ⟨W3, HW3⟩ : ∃ W3 : World, Hid (W3 = w2.alloc (.cells #[.int .i64 c, .int .i64 g] 30)) := ⟨_, Lib.hid rfl⟩
  clear CG hb2 HK1 HA1 HBa HS2 HG2 HT2
  rw [← HW3.out] at HK2 HA2 HBb HS3 HG3 HT3 hz3 CO
  go_wp2_with fail
  rw [← HW3.out]
  refine CO.out.mono ?_
  rintro x w3 ⟨rfl, rfl⟩
  have HZ3 := Lib.hid hz3
  clear CO hz3 HM2 HGE2 HW3
  by_cases hm : m = 0
  · have hmb : (m != 0) = false := by simpa using hm
    have hcz := makeC_zero (HM.out.symm.trans hm)
    obtain ⟨hwf, hpos⟩ := check_pos hcz.1
    have CW := Lib.hid (write_any e hwf (.slice A e.l.length cap) B W3 HS3.out (by have := HZ3.out; omega) hB0 hpos HT3.out)
    obtain ⟨q0, q1, q2, q3, q4⟩ : W3.cell? ⟨w0.heap.size, 0, none⟩ = some (.int .i64 e.k) ∧ W3.cell? ⟨w0.heap.size, 1, none⟩ = some (.string e.n) ∧ W3.cell? ⟨w0.heap.size, 2, none⟩ = some (.int .i64 e.a) ∧ W3.cell? ⟨w0.heap.size, 3, none⟩ = some (.int .i64 e.b) ∧ W3.cell? ⟨w0.heap.size, 4, none⟩ = some (.slice A e.l.length cap) := ⟨HK2.out.cell 0, HK2.out.cell 1, HK2.out.cell 2, HK2.out.cell 3, HK2.out.cell 4⟩
    have hlt3 : w0.heap.size < W3.heap.size := HK2.out.lt
    unfold exV at CW
    go_wp2_with fail
    refine CW.out.mono ?_
    rintro x w4 ⟨gf, rfl, hfr, hb4⟩
    have hs4 := hb4.size
    have hzz := HZ3.out
    obtain ⟨F, HF⟩ : ∃ F, Hid (F = writeM e) := ⟨writeM e, Lib.hid rfl⟩
    rw [← HF.out] at hfr
    obtain ⟨hok, hnl, hend⟩ := write_ok e
    have hnm := write_names (check_parts hcz.1).2.1
    rw [← HF.out] at hok hnl hend hnm
    have hsz : ∀ n ∈ F.1.ns, ∀ t ∈ standsM n gs, t.size ≤ maxLen := fun n hn => stands_sizes (by have := hnm n hn; unfold maxLen; omega) hG.s
    have hlen : (atM F.1.ns gs).length ≤ 100000000 := by
      have := atM_len (M := 1048576) (by omega) hG.n F.1.ns
      have h2 : (F.1.ns.length - 1) * 1048576 ≤ 24 * 1048576 := Nat.mul_le_mul_right _ (by omega)
      omega
    have HG4 : Hid (Grs w4 w4.heap.size vg gs) := (HG3.out.below (hb4.mono (by omega))).mono (by omega)
    have CL := Lib.hid (letters_any gf F.1 F.2 vg gs (· < W3.heap.size) w4 hfr HG4.out (by omega) (by omega) hsz hlen)
    have HFR := Lib.hid hfr
    have HA4 := Lib.hid (HA2.out.all hb4)
    have HBc : Hid (Below w0.heap.size w0 w4) := HBb.out.trans (hb4.mono (by omega))
    have HT4 : Hid (Tab w4) := HT3.out.all hb4
    have HN := Lib.hid hnl
    have HOK := Lib.hid hok
    have HSZ := Lib.hid hsz
    have HLN := Lib.hid hlen
    have HEN := Lib.hid hend
    clear CW hfr hb4 q0 q1 q2 q3 q4 HK2 HA2 HBb HS3 HG3 HT3 HG4 hok hnm hsz hlen hend hnl
    go_wp2_with fail
    refine CL.out.mono ?_
    rintro x w5 ⟨vl, ss, rfl, hlw, hb5⟩
    have hs5 := hb5.size
    obtain ⟨L, HL⟩ : ∃ L, Hid (L = lettersM F.1.ns gs) := ⟨lettersM F.1.ns gs, Lib.hid rfl⟩
    rw [← HL.out] at hlw
    obtain ⟨Av, cv, rfl⟩ := hlw.form
    obtain ⟨l1, l2, l3, _⟩ := lettersM_ok (G := fun t => t.size ≤ maxLen) HSZ.out
    rw [← HL.out] at l1 l2 l3
    have hn25 : F.1.ns.length ≤ 25 := by have := HN.out; omega
    have hbl : F.1.bh.length = F.1.ns.length := HOK.out.1
    have hat : ∀ x ∈ L, x.at_ < 33554432 := fun x hx => pow_25 (l1 x hx) hn25
    have hbh : ∀ x ∈ F.1.bh, x < 33554432 := fun x hx => pow_25 (HOK.out.2 x hx) hn25
    have hends : F.2 < 33554432 := pow_25 HEN.out (by omega)
    have hL8 : L.length ≤ 100000000 := Nat.le_trans l3 HLN.out
    have CF := Lib.hid (found_any gf F.1 F.2 (.slice Av L.length cv) L (· < W3.heap.size) w5 (HFR.out.all hb5) hlw.lts (HT4.out.all hb5) HOK.out (by have := HN.out; omega) (by omega) hat hL8)
    have hfl : (L.flatMap Lt.ts).length ≤ 1000000000000 := by
      have h1 := (letters_ok (2 ^ F.1.ns.length) (atM F.1.ns gs) (fun t => (atM_ok (G := fun _ => True) (fun _ _ _ _ => trivial)).look (Nat.two_pow_pos _) t) (sortTx ((atM F.1.ns gs).map Prod.fst)) [] [] ⟨by simp, by simp, by simp⟩).p.length_eq
      rw [List.nil_append, sortTx_len, List.length_map] at h1
      have h2 : L = (sortTx ((atM F.1.ns gs).map Prod.fst)).foldl (letS (atM F.1.ns gs)) [] := HL.out
      rw [← h2] at h1
      have := HLN.out; omega
    have HTO := Lib.hid (foundT_ok (ends := F.2) hbh hends hL8)
    have HFI : Hid ((foundT F.1.bh F.2 L).Fine) := fine_of l2 hfl
    have HA5 := Lib.hid (HA4.out.all hb5)
    have HBd : Hid (Below w0.heap.size w0 w5) := HBc.out.trans (hb5.mono (by omega))
    clear CL hlw hb5 HA4 HBc HFR HT4
    go_wp2_with fail
    refine CF.out.mono ?_
    rintro x w6 ⟨gt, rfl, htb, hb6⟩
    have hs6 := hb6.size
    have CA := Lib.hid (auto_any (foundT F.1.bh F.2 L) gt w6.heap.size w6 htb (Nat.le_refl _) HTO.out HFI.out)
    have HA6 := Lib.hid (HA5.out.all hb6)
    have HBe : Hid (Below w0.heap.size w0 w6) := HBd.out.trans (hb6.mono (by omega))
    clear CF htb hb6 HA5 HBd
    go_wp2_with fail
    refine CA.out.mono ?_
    rintro x w7 ⟨va, rfl, hsw, hb7⟩
    have hs7 := hb7.size
    have HA7 := Lib.hid (HA6.out.all hb7)
    have HBf : Hid (Below w0.heap.size w0 w7) := HBe.out.trans (hb7.mono (by omega))
    have HSW := Lib.hid hsw
    have qa : w7.cell? ⟨w0.heap.size + 1, 0, none⟩ = some (.slice none 0 0) := HA7.out.cell 0
    have qf : w7.frozen? ⟨w0.heap.size + 1, 0, none⟩ = false := HA7.out.frozen 0
    have hlt7 : w0.heap.size + 1 < w7.heap.size := HA7.out.lt
    unfold auV
    obtain ⟨Aw, cw, rfl⟩ := hsw.form
    clear CA hb7 HA6 HBe hsw
    go_wp2_with fail
    have hk := HA7.out.set 0 (.slice Aw (autoM (foundT F.1.bh F.2 L)).length cw)
    refine au2_ret 4 5 Tryz.results6 rfl rfl rfl (b := w0.heap.size + 1) (v := .slice Aw (autoM (foundT F.1.bh F.2 L)).length cw) (m := 0) (by simpa using hk) ?_
    refine ⟨_, by rw [← HM.out, hm], ?_, HBf.out.setCell (p := ⟨w0.heap.size + 1, 0, none⟩) (by simp) _⟩
    have hmk : makeL e gs = autoM (foundT F.1.bh F.2 L) := by
      unfold makeL
      rw [if_pos (HM.out.symm.trans hm)]
      unfold makeM
      rw [HL.out, HF.out]
    rw [hmk]
    exact (HSW.out.far (p := ⟨w0.heap.size + 1, 0, none⟩) (by show w0.heap.size + 1 < w6.heap.size + 2; omega) _).sts
  · have hmb : (m != 0) = true := by simpa using hm
    have qa : W3.cell? ⟨w0.heap.size + 1, 0, none⟩ = some (.slice none 0 0) := HA2.out.cell 0
    have qf : W3.frozen? ⟨w0.heap.size + 1, 0, none⟩ = false := HA2.out.frozen 0
    have hlt3 : w0.heap.size + 1 < W3.heap.size := HA2.out.lt
    go_wp2_with fail
    have hk := HA2.out.set 0 (.slice none 0 0)
    refine au2_ret 4 5 Tryz.results6 rfl rfl rfl (b := w0.heap.size + 1) (v := .slice none 0 0) (m := m) (by simpa using hk) ?_
    refine ⟨_, by rw [← HM.out], ?_, HBb.out.setCell (p := ⟨w0.heap.size + 1, 0, none⟩) (by simp) _⟩
    have hmk : makeL e gs = [] := by unfold makeL; rw [if_neg (fun h => hm (HM.out.trans h))]
    rw [hmk]
    exact Sts.nil _ _
end Go.Proofs.YtkbileabkfccgaaGreatDoor
