/- cmp.Or over numbers; and what Fill answers, as it is reckoned. -/
import Derived.Test.YtjoogocgklhgpaaAtG
namespace Go.Proofs.Ytjoogocgklhgpaa
open Go.RowKit

def orP : List Int → Int
  | [] => 0
  | a :: l => if a = 0 then orP l else a
theorem orP_zero (l : List Int) (h : ∀ a ∈ l, a = 0) : orP l = 0 := by
  induction l with
  | nil => rfl
  | cons a l ih => simp only [orP]; rw [if_pos (h a (by simp))]; exact ih fun b hb => h b (by simp [hb])
theorem orP_at (l : List Int) (k : Nat) (hk : k < l.length) (h0 : l[k] ≠ 0) (h : ∀ j (hj : j < l.length), j < k → l[j] = 0) : orP l = l[k] := by
  induction l generalizing k with
  | nil => simp at hk
  | cons a l ih =>
    cases k with
    | zero => simp only [orP, List.getElem_cons_zero] at *; rw [if_neg h0]
    | succ k =>
      have ha : a = 0 := h 0 (by simp) (by omega)
      simp only [orP, List.getElem_cons_succ] at *
      rw [if_pos ha]
      exact ih k (by simpa using hk) h0 fun j hj hjk => by have := h (j + 1) (by simpa using hj) (by omega); simpa using this
theorem orP_app (l m : List Int) : orP (l ++ m) = if orP l = 0 then orP m else orP l := by
  induction l with
  | nil => simp [orP]
  | cons a l ih =>
    by_cases h : a = 0
    · have e1 : ∀ x, orP (a :: x) = orP x := fun x => by simp [orP, h]
      rw [List.cons_append, e1, e1, ih]
    · have e1 : ∀ x, orP (a :: x) = a := fun x => by simp [orP, h]
      rw [List.cons_append, e1, e1, if_neg h]
def inC64 (l : List Int) : List Value := l.map (Value.int .i64)

set_option maxRecDepth 100000 in
theorem orE_any (v : Value) (l : List Int) (B : Nat) (w : World) (hv : Rd w B v 1 l.length (inC64 l)) :
    Calls Try.prog 29 #[v] w fun e w' => e = .returned (.int .i64 (orP l)) ∧ w = w' := by
  obtain ⟨A, cap, rfl⟩ := hv.form
  have hm := hv.max
  unfold maxLen at hm
  go_enter Try.func29, Try.ntmps29
  go_wp2
  go_loop [8] (fun i => ∃ k : Nat, k ≤ l.length ∧ i = .int .i64 k ∧ Hid (∀ j (hj : j < l.length), j < k → l[j] = 0)) (fun i => l.length - (intOf i).toNat)
  case atStart => exact ⟨0, Nat.zero_le _, rfl, fun j _ hj => by omega⟩
  case round =>
    obtain ⟨k, hk, rfl, hall⟩ := hrel
    by_cases hlt : k < l.length
    · obtain ⟨b, off, rfl, hbB, hcap, hc⟩ := Rd.at hv (by omega)
      have hc0 := hc k _ (by simp [inC64, hlt]; rfl)
      clear hc
      obtain ⟨x, hx⟩ : ∃ x, Hid (x = l[k]) := ⟨l[k], rfl⟩
      rw [← hx.out] at hc0
      by_cases h0 : x = 0
      · have hall' : Hid (∀ j (hj : j < l.length), j < k + 1 → l[j] = 0) := by
          show ∀ j, _
          intro j hj hjk
          by_cases e : j = k
          · subst e; rw [← hx.out]; exact h0
          · exact hall.out j hj (by omega)
        subst h0
        go_wp2
        go_round
        case rel => exact ⟨k + 1, by omega, by go_num, hall'⟩
        case measure => simp [intOf]; omega
      · have hfin : Hid (orP l = x) := by
          show _ = _
          rw [hx.out] at h0 ⊢
          exact orP_at l k hlt h0 hall.out
        have h0' : (x != 0) = true := by rw [bne_iff_ne]; exact h0
        go_wp2
        go_ret
        exact ⟨ret_int hfin.out.symm, rfl⟩
    · have hfin : Hid (orP l = 0) := orP_zero l fun a ha => by
        obtain ⟨j, hj, rfl⟩ := List.mem_iff_getElem.1 ha
        exact hall.out j hj (by omega)
      go_wp2
      go_ret
      exact ⟨ret_int hfin.out.symm, rfl⟩

set_option maxRecDepth 100000 in
theorem orI_any (v : Value) (l : List Int) (B : Nat) (w : World) (hv : Rd w B v 1 l.length (inC64 l)) :
    Calls Try.prog 43 #[v] w fun e w' => e = .returned (.int .i64 (orP l)) ∧ w = w' := by
  obtain ⟨A, cap, rfl⟩ := hv.form
  have hm := hv.max
  unfold maxLen at hm
  go_enter Try.func43, Try.ntmps43
  go_wp2
  go_loop [8] (fun i => ∃ k : Nat, k ≤ l.length ∧ i = .int .i64 k ∧ Hid (∀ j (hj : j < l.length), j < k → l[j] = 0)) (fun i => l.length - (intOf i).toNat)
  case atStart => exact ⟨0, Nat.zero_le _, rfl, fun j _ hj => by omega⟩
  case round =>
    obtain ⟨k, hk, rfl, hall⟩ := hrel
    by_cases hlt : k < l.length
    · obtain ⟨b, off, rfl, hbB, hcap, hc⟩ := Rd.at hv (by omega)
      have hc0 := hc k _ (by simp [inC64, hlt]; rfl)
      clear hc
      obtain ⟨x, hx⟩ : ∃ x, Hid (x = l[k]) := ⟨l[k], rfl⟩
      rw [← hx.out] at hc0
      by_cases h0 : x = 0
      · have hall' : Hid (∀ j (hj : j < l.length), j < k + 1 → l[j] = 0) := by
          show ∀ j, _
          intro j hj hjk
          by_cases e : j = k
          · subst e; rw [← hx.out]; exact h0
          · exact hall.out j hj (by omega)
        subst h0
        go_wp2
        go_round
        case rel => exact ⟨k + 1, by omega, by go_num, hall'⟩
        case measure => simp [intOf]; omega
      · have hfin : Hid (orP l = x) := by
          show _ = _
          rw [hx.out] at h0 ⊢
          exact orP_at l k hlt h0 hall.out
        have h0' : (x != 0) = true := by rw [bne_iff_ne]; exact h0
        go_wp2
        go_ret
        exact ⟨ret_int hfin.out.symm, rfl⟩
    · have hfin : Hid (orP l = 0) := orP_zero l fun a ha => by
        obtain ⟨j, hj, rfl⟩ := List.mem_iff_getElem.1 ha
        exact hall.out j hj (by omega)
      go_wp2
      go_ret
      exact ⟨ret_int hfin.out.symm, rfl⟩

def hit (l : List At) (s : Sp) : Bool := (getP l s.n).isSome
def one (l : List At) (s : Sp) : At := ⟨s.n, (getP l s.n).getD s.d⟩
def miss (l : List At) (s : Sp) : Bool := s.m && !hit l s
def fillE (p : List Sp) (l : List At) : Int := if specN p = 0 then (if checkN l = 0 then (if p.any (miss l) = true ∨ p.countP (hit l) < l.length then 6 else 0) else checkN l) else specN p
def fillL (p : List Sp) (l : List At) : List At := if fillE p l = 0 then p.map (one l) else []

theorem checkN_ok {l : List At} (h : checkN l = 0) : okL l = true := by
  unfold checkN at h
  split at h
  · omega
  · split at h
    · assumption
    · omega
theorem riseN {l : List At} (h : checkN l = 0) : ∀ (d j : Nat) (hj : j + d + 1 < l.length), ltS l[j].n l[j + d + 1].n = true := by
  have hok := checkN_ok h
  have step : ∀ k (hk : k + 1 < l.length), ltS l[k].n l[k + 1].n = true := by
    intro k hk
    have := okL_at hok hk
    unfold okK riseB at this
    rw [gA_get l _ hk, show k + 1 - 1 = k by omega, gA_get l k (by omega)] at this
    simp at this
    exact this.1.1
  intro d
  induction d with
  | zero => intro j hj; exact step j hj
  | succ d ih => intro j hj; exact ltS_trans (ih j (by omega)) (step (j + d + 1) (by omega))
theorem rise {l : List At} (h : checkN l = 0) {i j : Nat} (hij : i < j) (hj : j < l.length) : ltS l[i].n l[j].n = true := by
  have := riseN h (j - i - 1) i (by omega)
  have e : i + (j - i - 1) + 1 = j := by omega
  simpa [e] using this
theorem specN_ok {p : List Sp} (h : specN p = 0) : checkN (p.map fillOf) = 0 := by
  unfold specN at h
  split at h
  · assumption
  · exact h
theorem riseS {p : List Sp} (h : specN p = 0) {i j : Nat} (hij : i < j) (hj : j < p.length) : ltS p[i].n p[j].n = true := by
  have := rise (specN_ok h) hij (by simpa using hj)
  simpa [fillOf] using this
theorem specN_len {p : List Sp} (h : specN p = 0) : p.length ≤ 8 := by
  have := checkN_len (specN_ok h); simpa using this

/-- all of l ahead of j is behind no spec from i on -/
def Past (p : List Sp) (l : List At) (i j : Nat) : Prop := j ≤ l.length ∧ ∀ k (hk : k < l.length), k < j → ∀ i' (hi' : i' < p.length), i ≤ i' → ltS l[k].n p[i'].n = true
theorem Past.next {p : List Sp} {l : List At} {i j : Nat} (h : Past p l i j) : Past p l (i + 1) j := ⟨h.1, fun k hk hkj i' hi' hii => h.2 k hk hkj i' hi' (by omega)⟩
theorem Past.adv {p : List Sp} {l : List At} {i j : Nat} (hp : specN p = 0) (h : Past p l i j) (hi : i < p.length) (hj : j < l.length) (hle : ltS l[j].n p[i].n = true) : Past p l i (j + 1) := by
  refine ⟨by omega, fun k hk hkj i' hi' hii => ?_⟩
  by_cases e : k = j
  · subst e
    by_cases e2 : i' = i
    · subst e2; exact hle
    · exact ltS_trans hle (riseS hp (by omega) hi')
  · exact h.2 k hk (by omega) i' hi' hii
theorem ne_of_lt {a b : ByteArray} (h : ltS a b = true) : (a.toList == b.toList) = false := by
  rw [neS_iff]; rintro rfl; rw [ltS_irr] at h; cases h
theorem ne_of_gt {a b : ByteArray} (h : ltS b a = true) : (a.toList == b.toList) = false := by
  rw [neS_iff]; rintro rfl; rw [ltS_irr] at h; cases h
theorem Past.none {p : List Sp} {l : List At} {i j : Nat} (hl : checkN l = 0) (h : Past p l i j) (hi : i < p.length) (hno : ∀ (hj : j < l.length), ltS p[i].n l[j].n = true) : getP l p[i].n = none := by
  refine getP_no fun k hk => ?_
  unfold hasN
  by_cases hkj : k < j
  · exact ne_of_lt (h.2 k hk hkj i hi (Nat.le_refl _))
  · have hj : j < l.length := by omega
    by_cases e : k = j
    · subst e; exact ne_of_gt (hno hj)
    · exact ne_of_gt (ltS_trans (hno hj) (rise hl (by omega) hk))
theorem Past.some {p : List Sp} {l : List At} {i j : Nat} (h : Past p l i j) (hi : i < p.length) (hj : j < l.length) (he : (l[j].n.toList == p[i].n.toList) = true) :
    getP l p[i].n = .some l[j].v ∧ one l p[i] = l[j] := by
  have hg : getP l p[i].n = .some l[j].v := getP_at hj he fun k hk hkj => ne_of_lt (h.2 k hk hkj i hi (Nat.le_refl _))
  refine ⟨hg, ?_⟩
  unfold one
  rw [hg]
  have := (eqS_iff _ _).1 he
  rw [← this]
  rfl
end Go.Proofs.Ytjoogocgklhgpaa
