/- A machine that runs a Go text by reckoning: regions, what is known of them ahead. Of no program. -/
import Derived.Test.YtjajcecenflejaaEvL
import Derived.Test.YtjajcecenflejaaEvM
namespace Go.Ev

/-! ## who waits -/
noncomputable def maskE (o : Oper) : Nat := List.rec 0 (fun e _ ih => bif Region.binds .any e then Nat.lor ih (2 ^ e.on) else ih) o.after.toList
theorem maskE_bit (o : Oper) (i : Nat) : (maskE o).testBit i = true ↔ ∃ e ∈ o.after, Region.binds .any e = true ∧ e.on = i := by
  have key : ∀ l : List Edge, (List.rec 0 (fun e _ ih => bif Region.binds .any e then Nat.lor ih (2 ^ e.on) else ih) l : Nat).testBit i = true ↔ ∃ e ∈ l, Region.binds .any e = true ∧ e.on = i := by
    intro l
    induction l with
    | nil => simp
    | cons e l ih =>
      simp only [List.mem_cons, exists_eq_or_imp]
      cases hb : Region.binds .any e with
      | true =>
        simp only [cond_true, true_and]
        show ((List.rec 0 (fun e _ ih => bif Region.binds .any e then Nat.lor ih (2 ^ e.on) else ih) l : Nat) ||| 2 ^ e.on).testBit i = true ↔ _
        rw [Nat.testBit_or, Bool.or_eq_true, ih, Nat.testBit_two_pow, decide_eq_true_iff]
        exact Or.comm
      | false =>
        simp only [cond_false, Bool.false_eq_true, false_and, false_or]
        exact ih
  rw [maskE, key]
  simp
noncomputable def goodM (o : Oper) (V : Nat) : Bool := Nat.beq (Nat.land (maskE o) V) (maskE o)
theorem goodM_iff (o : Oper) (V : Nat) : goodM o V = true ↔ ∀ e ∈ o.after, Region.binds .any e = true → V.testBit e.on = true := by
  unfold goodM
  rw [beq_dec, decide_eq_true_iff]
  constructor
  · intro h e he hb
    have h1 := (maskE_bit o e.on).2 ⟨e, he, hb, rfl⟩
    have h2 : (maskE o &&& V).testBit e.on = true := by
      show (Nat.land (maskE o) V).testBit e.on = true
      rw [h]; exact h1
    rw [Nat.testBit_and, h1, Bool.true_and] at h2
    exact h2
  · intro h
    apply Nat.eq_of_testBit_eq
    intro i
    show (maskE o &&& V).testBit i = _
    rw [Nat.testBit_and]
    cases hm : (maskE o).testBit i with
    | false => rfl
    | true =>
      obtain ⟨e, he, hb, rfl⟩ := (maskE_bit o i).1 hm
      rw [h e he hb]; rfl
noncomputable def rdyG (V : Nat) (l : List Oper) : Nat → List Nat :=
  List.rec (fun _ => []) (fun o _ ih i => bif Nat.testBit V i then ih (i + 1) else (bif goodM o V then i :: ih (i + 1) else ih (i + 1))) l
theorem rdyG_mem (V : Nat) : ∀ (l : List Oper) (k j : Nat), j ∈ rdyG V l k ↔ k ≤ j ∧ V.testBit j = false ∧ ∃ o, l[j - k]? = some o ∧ goodM o V = true
  | [], k, j => by simp [rdyG]
  | o :: l, k, j => by
    have ih := rdyG_mem V l (k + 1) j
    have hd : rdyG V (o :: l) k = bif Nat.testBit V k then rdyG V l (k + 1) else (bif goodM o V then k :: rdyG V l (k + 1) else rdyG V l (k + 1)) := rfl
    rw [hd]
    have step : (k + 1 ≤ j ∧ V.testBit j = false ∧ ∃ o, l[j - (k + 1)]? = some o ∧ goodM o V = true) ↔ (k < j ∧ V.testBit j = false ∧ ∃ o', (o :: l)[j - k]? = some o' ∧ goodM o' V = true) := by
      constructor
      · rintro ⟨h1, h2, o', h3, h4⟩
        exact ⟨h1, h2, o', by rw [show j - k = (j - (k + 1)) + 1 by omega, List.getElem?_cons_succ]; exact h3, h4⟩
      · rintro ⟨h1, h2, o', h3, h4⟩
        exact ⟨h1, h2, o', by rw [show j - k = (j - (k + 1)) + 1 by omega, List.getElem?_cons_succ] at h3; exact h3, h4⟩
    cases hV : Nat.testBit V k with
    | true =>
      rw [cond_true, ih, step]
      constructor
      · rintro ⟨h1, h2⟩; exact ⟨by omega, h2⟩
      · rintro ⟨h1, h2, h3⟩
        refine ⟨?_, h2, h3⟩
        rcases Nat.lt_or_ge k j with h' | h'
        · exact h'
        · obtain rfl : j = k := by omega
          rw [hV] at h2; cases h2
    | false =>
      rw [cond_false]
      cases hg : goodM o V with
      | true =>
        rw [cond_true, List.mem_cons, ih, step]
        constructor
        · rintro (rfl | ⟨h1, h2⟩)
          · exact ⟨Nat.le_refl _, hV, o, by simp, hg⟩
          · exact ⟨by omega, h2⟩
        · rintro ⟨h1, h2, h3⟩
          by_cases hjk : j = k
          · exact .inl hjk
          · exact .inr ⟨by omega, h2, h3⟩
      | false =>
        rw [cond_false, ih, step]
        constructor
        · rintro ⟨h1, h2⟩; exact ⟨by omega, h2⟩
        · rintro ⟨h1, h2, o', h3, h4⟩
          refine ⟨?_, h2, o', h3, h4⟩
          rcases Nat.lt_or_ge k j with h' | h'
          · exact h'
          · obtain rfl : j = k := by omega
            simp at h3; subst h3; rw [hg] at h4; cases h4
/-- a number stands for who has come -/
def VOf (n : Nat) (V : Nat) (L : Array Bool) : Prop := L.size = n ∧ ∀ i, i < n → L.getD i true = V.testBit i
theorem rdy_iff {ops : Array Oper} {V : Nat} {L : Array Bool} (hv : VOf ops.size V L) (hdown : ∀ j i, Waits ops j i → i < j) (j : Nat) : j ∈ rdyG V ops.toList 0 ↔ j ∈ Region.ready .any ops L := by
  rw [rdyG_mem, ready_iff]
  simp only [Nat.zero_le, true_and, Nat.sub_zero, Array.getElem?_toList]
  have hlt : ∀ i o, ops[i]? = some o → i < ops.size := fun i o h => (Array.getElem?_eq_some_iff.1 h).1
  constructor
  · rintro ⟨h1, o, ho, hg⟩
    have hj := hlt j o ho
    refine ⟨by rw [hv.2 j hj]; exact h1, ⟨o, ho⟩, ?_⟩
    rintro i ⟨o2, ho2, e, he, hb, rfl⟩
    have hi := hdown j e.on ⟨o2, ho2, e, he, hb, rfl⟩
    rw [ho] at ho2; simp only [Option.some.injEq] at ho2; subst ho2
    rw [← getD_dual (by rw [hv.1]; omega), hv.2 _ (by omega)]
    exact (goodM_iff o V).1 hg e he hb
  · rintro ⟨h1, ⟨o, ho⟩, h3⟩
    have hj := hlt j o ho
    refine ⟨by rw [← hv.2 j hj]; exact h1, o, ho, (goodM_iff o V).2 fun e he hb => ?_⟩
    have hw : Waits ops j e.on := ⟨o, ho, e, he, hb, rfl⟩
    have hi := hdown j e.on hw
    have := h3 e.on hw
    rw [← getD_dual (by rw [hv.1]; omega), hv.2 _ (by omega)] at this
    exact this
theorem VOf.set {n V i : Nat} {L : Array Bool} (h : VOf n V L) (hi : i < n) : VOf n (V ||| 2 ^ i) (setL L i) := by
  refine ⟨by rw [setL_size]; exact h.1, fun j hj => ?_⟩
  rw [Nat.testBit_or, Nat.testBit_two_pow]
  unfold setL
  by_cases hij : i = j
  · subst hij; simp [h.1, hi]
  · rw [getD_set_ne true hij, h.2 j hj]; simp [hij]

/-! ## who reads what -/
def tmpL : Operand → List Tmp
  | .tmp t => [t]
  | _ => []
noncomputable def tmpsL (l : List Operand) : List Tmp := List.rec [] (fun x _ ih => match x with | .tmp t => t :: ih | _ => ih) l
theorem tmpsL_mem (l : List Operand) (t : Tmp) : t ∈ l.filterMap (fun | .tmp t => some t | _ => none) → t ∈ tmpsL l := by
  intro h
  obtain ⟨x, hx, he⟩ := List.mem_filterMap.1 h
  induction l with
  | nil => cases hx
  | cons y l ih =>
    have hd : tmpsL (y :: l) = (match y with | .tmp t => t :: tmpsL l | _ => tmpsL l) := by cases y <;> rfl
    rw [hd]
    rcases List.mem_cons.1 hx with rfl | hx
    · cases x <;> simp_all
    · have := ih (List.mem_filterMap.2 ⟨x, hx, he⟩) hx
      cases y <;> simp_all
noncomputable def looksL (ops : List Oper) (o : Oper) : List Tmp :=
  app (tmpsL o.op.operands.toList) (match o.guard with
    | some (g, _) => (match nth ops g with
      | some og => (match og.dst with | some t => [t] | none => [])
      | none => [])
    | none => [])
theorem looksL_mem {ops : Array Oper} {o : Oper} {t : Tmp} (h : t ∈ o.looksAt ops) : t ∈ looksL ops.toList o := by
  unfold looksL
  rw [app_eq, List.mem_append]
  unfold Oper.looksAt at h
  rcases List.mem_append.1 h with h | h
  · exact .inl (tmpsL_mem _ _ h)
  · refine .inr ?_
    cases hg : o.guard with
    | none => rw [hg] at h; cases h
    | some gw =>
      obtain ⟨g, want⟩ := gw
      rw [hg] at h
      simp only [nth_eq, Array.getElem?_toList]
      simp only at h
      cases hog : ops[g]? with
      | none => rw [hog] at h; cases h
      | some og =>
        rw [hog] at h
        simp only [Option.bind_some] at h
        cases hd : og.dst with
        | none => rw [hd] at h; cases h
        | some d => rw [hd] at h; simp only [hd]; simpa using h
noncomputable def memT (t : Nat) (l : List Nat) : Bool := List.rec false (fun x _ ih => bif Nat.beq x t then true else ih) l
theorem memT_iff (t : Nat) : ∀ l, memT t l = true ↔ t ∈ l
  | [] => by simp [memT]
  | x :: l => by
    have ih := memT_iff t l
    show (bif Nat.beq x t then true else memT t l) = true ↔ _
    rw [beq_dec]
    by_cases h : x = t
    · simp [h]
    · have h' : ¬ t = x := fun e => h e.symm
      simp [h, h', ih]
noncomputable def dstIs (o : Oper) (d : Tmp) : Bool := match o.dst with | some t => Nat.beq t d | none => false
noncomputable def othersOk (ops : List Oper) (i : Nat) (d : Tmp) (l : List Oper) : Nat → Bool :=
  List.rec (fun _ => true) (fun o _ ih j => bif Nat.beq j i then ih (j + 1) else (bif dstIs o d then false else (bif memT d (looksL ops o) then (bif Nat.testBit (maskE o) i then ih (j + 1) else false) else ih (j + 1)))) l
theorem othersOk_spec {ops : List Oper} {i : Nat} {d : Tmp} : ∀ {l : List Oper} {k : Nat}, othersOk ops i d l k = true → ∀ j o, l[j]? = some o → k + j ≠ i → dstIs o d = false ∧ (memT d (looksL ops o) = true → Nat.testBit (maskE o) i = true)
  | [], _, _, j, o, ho, _ => by simp at ho
  | a :: l, k, h, j, o, ho, hne => by
    have hd : othersOk ops i d (a :: l) k = (bif Nat.beq k i then othersOk ops i d l (k + 1) else (bif dstIs a d then false else (bif memT d (looksL ops a) then (bif Nat.testBit (maskE a) i then othersOk ops i d l (k + 1) else false) else othersOk ops i d l (k + 1)))) := rfl
    rw [hd] at h
    have hrest : othersOk ops i d l (k + 1) = true ∧ (k ≠ i → dstIs a d = false ∧ (memT d (looksL ops a) = true → Nat.testBit (maskE a) i = true)) := by
      cases h1 : Nat.beq k i with
      | true => rw [h1, cond_true] at h; exact ⟨h, fun e => absurd (Nat.eq_of_beq_eq_true h1) e⟩
      | false =>
        rw [h1, cond_false] at h
        cases h2 : dstIs a d with
        | true => rw [h2] at h; cases h
        | false =>
          rw [h2, cond_false] at h
          cases h3 : memT d (looksL ops a) with
          | false => rw [h3, cond_false] at h; exact ⟨h, fun _ => ⟨rfl, fun e => by cases e⟩⟩
          | true =>
            rw [h3, cond_true] at h
            cases h4 : Nat.testBit (maskE a) i with
            | false => rw [h4] at h; cases h
            | true => rw [h4, cond_true] at h; exact ⟨h, fun _ => ⟨rfl, fun _ => rfl⟩⟩
    cases j with
    | zero => simp at ho; subst ho; exact hrest.2 hne
    | succ j => exact othersOk_spec hrest.1 j o (by simpa using ho) (by omega)
def kindQ : Op → Bool
  | .move _ => true | .assign _ => true | .pick .. => true | .build .. => true | .nilCheck _ => true | .binOp .. => true | .unOp .. => true | .convert .. => true | .makeFunc .. => true
  | .slice .. => true | .fieldAddr .. => true | .indexAddr .. => true | .field .. => true | .index .. => true | .extract .. => true | .load .. => true | .lookup .. => true
  | .alloc _ => true | .box .. => true | .buildSlice .. => true | .makeMap _ none => true | .makeSlice .. => true
  | .call c => (match c.callee with | .builtin .len => true | .builtin .min => true | .builtin .max => true | .builtin .cap => true | _ => false)
  | _ => false
noncomputable def qok (ops : List Oper) (i : Nat) : Bool := match nth ops i with
  | some o => bif kindQ o.op then (match o.dst with
    | some d => bif memT d (looksL ops o) then false else othersOk ops i d ops 0
    | none => true) else false
  | none => false
theorem qok_spec {ops : Array Oper} {i : Nat} (h : qok ops.toList i = true) : QOk ops i := by
  unfold qok at h
  rw [nth_eq, Array.getElem?_toList] at h
  split at h
  · rename_i o ho
    cases hk : kindQ o.op with
    | false => rw [hk] at h; cases h
    | true =>
      rw [hk, cond_true] at h
      refine ⟨o, ho, ?_, fun d hd => ?_⟩
      · intro cs b e; rw [e] at hk; cases hk
      rw [hd] at h
      simp only at h
      cases hm : memT d (looksL ops.toList o) with
      | true => rw [hm] at h; cases h
      | false =>
        rw [hm, cond_false] at h
        refine ⟨fun hl => ?_, fun j oj hoj hne => ?_⟩
        · have := (memT_iff d _).2 (looksL_mem hl)
          rw [hm] at this; cases this
        · obtain ⟨h1, h2⟩ := othersOk_spec h j oj (by rw [Array.getElem?_toList]; exact hoj) (by omega)
          refine ⟨fun e => ?_, fun hl => ?_⟩
          · unfold dstIs at h1
            rw [e] at h1
            simp at h1
          · exact (maskE_bit oj i).1 (h2 ((memT_iff d _).2 (looksL_mem hl)))
  · cases h

/-! ## an order, or some -/
inductive Sc where
  | done
  | q (i : Nat) (s : Sc)
  | l (i : Nat) (s : Sc)
  | alt (i : Nat) (s r : Sc)
  | bad
noncomputable def findQ (ops : List Oper) (l : List Nat) : Option Nat := List.rec none (fun i _ ih => bif qok ops i then some i else ih) l
noncomputable def altsOf (f : Nat → Sc) (i : Nat) (l : List Nat) : Sc := (List.rec (fun i => .l i (f i)) (fun j _ ih i => .alt i (f i) (ih j)) l : Nat → Sc) i
noncomputable def mkSc (ops : List Oper) (n : Nat) : Nat → Sc :=
  Nat.rec (fun V => match rdyG V ops 0 with | [] => .done | _ => .bad)
    (fun _ ih V => match rdyG V ops 0 with
      | [] => .done
      | i :: l => match findQ ops (i :: l) with
        | some q => .q q (ih (Nat.lor V (2 ^ q)))
        | none => altsOf (fun j => ih (Nat.lor V (2 ^ j))) i l) n
end Go.Ev
