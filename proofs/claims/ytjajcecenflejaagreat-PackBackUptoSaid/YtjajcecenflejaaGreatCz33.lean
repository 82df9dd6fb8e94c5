/- YtjajcecenflejaaGreatCz33 -/
import Derived.OrdersIn
import Derived.TacticsIn
import Derived.Test.YtjajcecenflejaaGreatCz32
namespace Go.Ev
section
variable {P : Program} {ops : Array Oper} {Q : Exit → Act → World → Prop}
def dstOf (ops : Array Oper) (i : Nat) : Option Tmp := (ops[i]?).bind (·.dst)
def Does (P : Program) (ops : Array Oper) (j : Nat) (A : Act) (w : World) (K : Act → World → Prop) : Prop :=
  ∃ o, ops[j]? = some o ∧ ((Region.wanted o (yielded ops A.tmps) = false ∧ K (A.put o.dst undef) w) ∨ (Region.wanted o (yielded ops A.tmps) = true ∧
    ((∃ v w', (execOp A.eval o).run P w = .ok (.value v) w' ∧ K (A.put o.dst v) w') ∨ (∃ w', (execOp A.eval o).run P w = .ok .skip w' ∧ K (A.put o.dst undef) w') ∨
     (∃ f args w', (execOp A.eval o).run P w = .ok (.enter f args) w' ∧ Calls P f args w' (fun e w'' => ∃ v, e = .returned v ∧ K (A.put o.dst v) w'')) ∨
     (∃ l f tmps as bd w', (execOp A.eval o).run P w = .ok (.round l f tmps as bd) w' ∧ RoundIn Fence.wide 0 P l f tmps as bd w' (fun e w'' => ∃ v, e = .returned v ∧ K (A.put o.dst v) w'')))))
def Fw (ρ : Option Nat) : Fence := { Fence.wide with round := ρ }
theorem semAt_ok {ρ : Option Nat} {ev : Operand → Value} {o : Oper} {w w' : World} {x : Next} (h : (execOp ev o).run P w = .ok x w') (hx : ∀ d, x ≠ .defer d) : (o.semAt ρ ev).run P w = .ok x w' := by
  rw [Oper.semAt_eq ρ ev o]
  · exact h
  · intro c hc
    have h2 : (execOp ev o).run P w = (resolve ev c o.type >>= fun d => (pure (Next.defer d) : Sem Next)).run P w := by
      unfold execOp; rw [hc]
    rw [h2, Sem.run_bind] at h
    cases hr : (resolve ev c o.type).run P w with
    | ok d w1 =>
      rw [hr] at h
      simp only [Result.andThen_ok, Sem.run_pure, Result.ok.injEq] at h
      exact hx d h.1.symm
    | halt e w1 => rw [hr] at h; cases h
theorem wpIn_of_does {ρ : Option Nat} {o : Oper} {A : Act} {w : World} {K : Act → World → Prop} (h : ((∃ v w', (execOp A.eval o).run P w = .ok (.value v) w' ∧ K (A.put o.dst v) w') ∨ (∃ w', (execOp A.eval o).run P w = .ok .skip w' ∧ K (A.put o.dst undef) w') ∨
     (∃ f args w', (execOp A.eval o).run P w = .ok (.enter f args) w' ∧ Calls P f args w' (fun e w'' => ∃ v, e = .returned v ∧ K (A.put o.dst v) w'')) ∨
     (∃ l f tmps as bd w', (execOp A.eval o).run P w = .ok (.round l f tmps as bd) w' ∧ RoundIn Fence.wide 0 P l f tmps as bd w' (fun e w'' => ∃ v, e = .returned v ∧ K (A.put o.dst v) w'')))) : o.wpIn (Fw ρ) 0 P A w K Q := by
  refine ⟨fun _ _ => trivial, ?_⟩
  rcases h with ⟨v, w', hr, hk⟩ | ⟨w', hr, hk⟩ | ⟨f, args, w', hr, hc⟩ | ⟨l, f, tmps, as, bd, w', hr, hc⟩
  · rw [semAt_ok hr (fun d => by simp)]; exact hk
  · rw [semAt_ok hr (fun d => by simp)]; exact hk
  · rw [semAt_ok hr (fun d => by simp)]
    refine ⟨fun h => (by cases h), ?_⟩
    have hc2 : CallsIn Fence.wide 0 P f args w' (fun e w'' => ∃ v, e = .returned v ∧ K (A.put o.dst v) w'') := callsIn_wide.2 hc
    exact CallsIn.mono (F := Fw ρ) hc2 fun e w'' ⟨v, he, hk⟩ => by subst he; exact hk
  · rw [semAt_ok hr (fun d => by simp)]
    refine ⟨fun h => (by cases h), ?_⟩
    exact RoundIn.mono (F := Fw ρ) hc fun e w'' ⟨v, he, hk⟩ => by subst he; exact hk
theorem Does.wpOp {ρ : Option Nat} {j : Nat} {A : Act} {w : World} {K : Act → World → Prop} (h : Does P ops j A w K) : wpOpIn (Fw ρ) 0 P ops Q j K A w := by
  obtain ⟨o, ho, h⟩ := h
  unfold Go.wpOpIn
  simp only [ho]
  rcases h with ⟨hw, hk⟩ | ⟨hw, h⟩
  · simp only [hw, Bool.false_eq_true, if_false]; exact ⟨fun _ _ => trivial, hk⟩
  · simp only [hw, if_true]
    exact wpIn_of_does h
theorem Does.mono {j : Nat} {A : Act} {w : World} {K K' : Act → World → Prop} (h : Does P ops j A w K) (hk : ∀ a w, K a w → K' a w) : Does P ops j A w K' := by
  obtain ⟨o, ho, h⟩ := h
  refine ⟨o, ho, ?_⟩
  rcases h with ⟨hw, h⟩ | ⟨hw, h⟩
  · exact .inl ⟨hw, hk _ _ h⟩
  · refine .inr ⟨hw, ?_⟩
    rcases h with ⟨v, w', hr, h⟩ | ⟨w', hr, h⟩ | ⟨f, args, w', hr, hc⟩ | ⟨l, f, tmps, as, bd, w', hr, hc⟩
    · exact .inl ⟨v, w', hr, hk _ _ h⟩
    · exact .inr (.inl ⟨w', hr, hk _ _ h⟩)
    · exact .inr (.inr (.inl ⟨f, args, w', hr, Calls.mono hc fun e w'' ⟨v, he, h⟩ => ⟨v, he, hk _ _ h⟩⟩))
    · exact .inr (.inr (.inr ⟨l, f, tmps, as, bd, w', hr, RoundIn.mono hc fun e w'' ⟨v, he, h⟩ => ⟨v, he, hk _ _ h⟩⟩))
def QOk (ops : Array Oper) (i : Nat) : Prop :=
  ∃ o, ops[i]? = some o ∧ (∀ cs b, o.op ≠ .select cs b) ∧ ∀ d, o.dst = some d → d ∉ o.looksAt ops ∧ ∀ j oj, ops[j]? = some oj → j ≠ i → oj.dst ≠ some d ∧ (d ∈ oj.looksAt ops → ∃ e ∈ oj.after, Region.binds .any e = true ∧ e.on = i)
def setL (L : Array Bool) (i : Nat) : Array Bool := L.setIfInBounds i true
def Waits (ops : Array Oper) (j i : Nat) : Prop := ∃ o, ops[j]? = some o ∧ ∃ e ∈ o.after, Region.binds .any e = true ∧ e.on = i
theorem getD_lt {L : Array Bool} {i : Nat} (h : L.getD i true = false) : i < L.size := by
  rcases Nat.lt_or_ge i L.size with h' | h'
  · exact h'
  · simp [Array.getElem?_eq_none h'] at h
theorem getD_dual {L : Array Bool} {i : Nat} (h : i < L.size) : L.getD i true = L.getD i false := by simp [h]
theorem setL_size (L : Array Bool) (i : Nat) : (setL L i).size = L.size := by simp [setL]
theorem setL_getD {L : Array Bool} {i j : Nat} (h : i < L.size) : (setL L i).getD j true = false ↔ L.getD j true = false ∧ j ≠ i := by
  unfold setL
  by_cases hij : i = j
  · subst hij; simp [h]
  · rw [getD_set_ne true hij]
    exact ⟨fun e => ⟨e, fun e2 => hij e2.symm⟩, fun e => e.1⟩
theorem ready_iff {j : Nat} {L : Array Bool} : j ∈ Region.ready .any ops L ↔ L.getD j true = false ∧ (∃ o, ops[j]? = some o) ∧ ∀ i, Waits ops j i → L.getD i false = true := by
  rw [mem_ready]
  constructor
  · rintro ⟨h0, o, ho, h⟩
    refine ⟨h0, ⟨o, ho⟩, ?_⟩
    rintro i ⟨o2, ho2, e, he, hb, rfl⟩
    rw [ho] at ho2; simp only [Option.some.injEq] at ho2; subst ho2
    exact h e he hb
  · rintro ⟨h0, ⟨o, ho⟩, h⟩
    exact ⟨h0, o, ho, fun e he hb => h e.on ⟨o, ho, e, he, hb, rfl⟩⟩
end
end Go.Ev
namespace Go.Ev
noncomputable def maskE (o : Oper) : Nat := List.rec 0 (fun e _ ih => bif Region.binds .any e then Nat.lor ih (2 ^ e.on) else ih) o.after.toList
theorem maskE_bit (o : Oper) (i : Nat) : (maskE o).testBit i = true ↔ ∃ e ∈ o.after, Region.binds .any e = true ∧ e.on = i := by
  have key : ∀ l : List Edge, (List.rec 0 (fun e _ ih => bif Region.binds .any e then Nat.lor ih (2 ^ e.on) else ih) l : Nat).testBit i = true ↔ ∃ e ∈ l, Region.binds .any e = true ∧ e.on = i := by
    intro l
    induction l with
    | nil => simp
    | cons e l ih =>
      simp only [List.mem_cons, exists_eq_or_imp]
      cases hb : Region.binds .any e with
      | true =>
        simp only [cond_true, true_and]
        show ((List.rec 0 (fun e _ ih => bif Region.binds .any e then Nat.lor ih (2 ^ e.on) else ih) l : Nat) ||| 2 ^ e.on).testBit i = true ↔ _
        rw [Nat.testBit_or, Bool.or_eq_true, ih, Nat.testBit_two_pow, decide_eq_true_iff]
        exact Or.comm
      | false =>
        simp only [cond_false, Bool.false_eq_true, false_and, false_or]
        exact ih
  rw [maskE, key]
  simp
noncomputable def goodM (o : Oper) (V : Nat) : Bool := Nat.beq (Nat.land (maskE o) V) (maskE o)
theorem goodM_iff (o : Oper) (V : Nat) : goodM o V = true ↔ ∀ e ∈ o.after, Region.binds .any e = true → V.testBit e.on = true := by
  unfold goodM
  rw [beq_dec, decide_eq_true_iff]
  constructor
  · intro h e he hb
    have h1 := (maskE_bit o e.on).2 ⟨e, he, hb, rfl⟩
    have h2 : (maskE o &&& V).testBit e.on = true := by
      show (Nat.land (maskE o) V).testBit e.on = true
      rw [h]; exact h1
    rw [Nat.testBit_and, h1, Bool.true_and] at h2
    exact h2
  · intro h
    apply Nat.eq_of_testBit_eq
    intro i
    show (maskE o &&& V).testBit i = _
    rw [Nat.testBit_and]
    cases hm : (maskE o).testBit i with
    | false => rfl
    | true =>
      obtain ⟨e, he, hb, rfl⟩ := (maskE_bit o i).1 hm
      rw [h e he hb]; rfl
noncomputable def rdyG (V : Nat) (l : List Oper) : Nat → List Nat :=
  List.rec (fun _ => []) (fun o _ ih i => bif Nat.testBit V i then ih (i + 1) else (bif goodM o V then i :: ih (i + 1) else ih (i + 1))) l
theorem rdyG_mem (V : Nat) : ∀ (l : List Oper) (k j : Nat), j ∈ rdyG V l k ↔ k ≤ j ∧ V.testBit j = false ∧ ∃ o, l[j - k]? = some o ∧ goodM o V = true
  | [], k, j => by simp [rdyG]
  | o :: l, k, j => by
    have ih := rdyG_mem V l (k + 1) j
    have hd : rdyG V (o :: l) k = bif Nat.testBit V k then rdyG V l (k + 1) else (bif goodM o V then k :: rdyG V l (k + 1) else rdyG V l (k + 1)) := rfl
    rw [hd]
    have step : (k + 1 ≤ j ∧ V.testBit j = false ∧ ∃ o, l[j - (k + 1)]? = some o ∧ goodM o V = true) ↔ (k < j ∧ V.testBit j = false ∧ ∃ o', (o :: l)[j - k]? = some o' ∧ goodM o' V = true) := by
      constructor
      · rintro ⟨h1, h2, o', h3, h4⟩
        exact ⟨h1, h2, o', by rw [show j - k = (j - (k + 1)) + 1 by omega, List.getElem?_cons_succ]; exact h3, h4⟩
      · rintro ⟨h1, h2, o', h3, h4⟩
        exact ⟨h1, h2, o', by rw [show j - k = (j - (k + 1)) + 1 by omega, List.getElem?_cons_succ] at h3; exact h3, h4⟩
    cases hV : Nat.testBit V k with
    | true =>
      rw [cond_true, ih, step]
      constructor
      · rintro ⟨h1, h2⟩; exact ⟨by omega, h2⟩
      · rintro ⟨h1, h2, h3⟩
        refine ⟨?_, h2, h3⟩
        rcases Nat.lt_or_ge k j with h' | h'
        · exact h'
        · obtain rfl : j = k := by omega
          rw [hV] at h2; cases h2
    | false =>
      rw [cond_false]
      cases hg : goodM o V with
      | true =>
        rw [cond_true, List.mem_cons, ih, step]
        constructor
        · rintro (rfl | ⟨h1, h2⟩)
          · exact ⟨Nat.le_refl _, hV, o, by simp, hg⟩
          · exact ⟨by omega, h2⟩
        · rintro ⟨h1, h2, h3⟩
          by_cases hjk : j = k
          · exact .inl hjk
          · exact .inr ⟨by omega, h2, h3⟩
      | false =>
        rw [cond_false, ih, step]
        constructor
        · rintro ⟨h1, h2⟩; exact ⟨by omega, h2⟩
        · rintro ⟨h1, h2, o', h3, h4⟩
          refine ⟨?_, h2, o', h3, h4⟩
          rcases Nat.lt_or_ge k j with h' | h'
          · exact h'
          · obtain rfl : j = k := by omega
            simp at h3; subst h3; rw [hg] at h4; cases h4
def VOf (n : Nat) (V : Nat) (L : Array Bool) : Prop := L.size = n ∧ ∀ i, i < n → L.getD i true = V.testBit i
theorem VOf.set {n V i : Nat} {L : Array Bool} (h : VOf n V L) (hi : i < n) : VOf n (V ||| 2 ^ i) (setL L i) := by
  refine ⟨by rw [setL_size]; exact h.1, fun j hj => ?_⟩
  rw [Nat.testBit_or, Nat.testBit_two_pow]
  unfold setL
  by_cases hij : i = j
  · subst hij; simp [h.1, hi]
  · rw [getD_set_ne true hij, h.2 j hj]; simp [hij]
noncomputable def tmpsL (l : List Operand) : List Tmp := List.rec [] (fun x _ ih => match x with | .tmp t => t :: ih | _ => ih) l
theorem tmpsL_mem (l : List Operand) (t : Tmp) : t ∈ l.filterMap (fun | .tmp t => some t | _ => none) → t ∈ tmpsL l := by
  intro h
  obtain ⟨x, hx, he⟩ := List.mem_filterMap.1 h
  induction l with
  | nil => cases hx
  | cons y l ih =>
    have hd : tmpsL (y :: l) = (match y with | .tmp t => t :: tmpsL l | _ => tmpsL l) := by cases y <;> rfl
    rw [hd]
    rcases List.mem_cons.1 hx with rfl | hx
    · cases x <;> simp_all
    · have := ih (List.mem_filterMap.2 ⟨x, hx, he⟩) hx
      cases y <;> simp_all
noncomputable def looksL (ops : List Oper) (o : Oper) : List Tmp :=
  app (tmpsL o.op.operands.toList) (match o.guard with
    | some (g, _) => (match nth ops g with
      | some og => (match og.dst with | some t => [t] | none => [])
      | none => [])
    | none => [])
theorem looksL_mem {ops : Array Oper} {o : Oper} {t : Tmp} (h : t ∈ o.looksAt ops) : t ∈ looksL ops.toList o := by
  unfold looksL
  rw [app_eq, List.mem_append]
  unfold Oper.looksAt at h
  rcases List.mem_append.1 h with h | h
  · exact .inl (tmpsL_mem _ _ h)
  · refine .inr ?_
    cases hg : o.guard with
    | none => rw [hg] at h; cases h
    | some gw =>
      obtain ⟨g, want⟩ := gw
      rw [hg] at h
      simp only [nth_eq, Array.getElem?_toList]
      simp only at h
      cases hog : ops[g]? with
      | none => rw [hog] at h; cases h
      | some og =>
        rw [hog] at h
        simp only [Option.bind_some] at h
        cases hd : og.dst with
        | none => rw [hd] at h; cases h
        | some d => rw [hd] at h; simp only [hd]; simpa using h
noncomputable def memT (t : Nat) (l : List Nat) : Bool := List.rec false (fun x _ ih => bif Nat.beq x t then true else ih) l
theorem memT_iff (t : Nat) : ∀ l, memT t l = true ↔ t ∈ l
  | [] => by simp [memT]
  | x :: l => by
    have ih := memT_iff t l
    show (bif Nat.beq x t then true else memT t l) = true ↔ _
    rw [beq_dec]
    by_cases h : x = t
    · simp [h]
    · have h' : ¬ t = x := fun e => h e.symm
      simp [h, h', ih]
noncomputable def dstIs (o : Oper) (d : Tmp) : Bool := match o.dst with | some t => Nat.beq t d | none => false
noncomputable def othersOk (ops : List Oper) (i : Nat) (d : Tmp) (l : List Oper) : Nat → Bool :=
  List.rec (fun _ => true) (fun o _ ih j => bif Nat.beq j i then ih (j + 1) else (bif dstIs o d then false else (bif memT d (looksL ops o) then (bif Nat.testBit (maskE o) i then ih (j + 1) else false) else ih (j + 1)))) l
theorem othersOk_spec {ops : List Oper} {i : Nat} {d : Tmp} : ∀ {l : List Oper} {k : Nat}, othersOk ops i d l k = true → ∀ j o, l[j]? = some o → k + j ≠ i → dstIs o d = false ∧ (memT d (looksL ops o) = true → Nat.testBit (maskE o) i = true)
  | [], _, _, j, o, ho, _ => by simp at ho
  | a :: l, k, h, j, o, ho, hne => by
    have hd : othersOk ops i d (a :: l) k = (bif Nat.beq k i then othersOk ops i d l (k + 1) else (bif dstIs a d then false else (bif memT d (looksL ops a) then (bif Nat.testBit (maskE a) i then othersOk ops i d l (k + 1) else false) else othersOk ops i d l (k + 1)))) := rfl
    rw [hd] at h
    have hrest : othersOk ops i d l (k + 1) = true ∧ (k ≠ i → dstIs a d = false ∧ (memT d (looksL ops a) = true → Nat.testBit (maskE a) i = true)) := by
      cases h1 : Nat.beq k i with
      | true => rw [h1, cond_true] at h; exact ⟨h, fun e => absurd (Nat.eq_of_beq_eq_true h1) e⟩
      | false =>
        rw [h1, cond_false] at h
        cases h2 : dstIs a d with
        | true => rw [h2] at h; cases h
        | false =>
          rw [h2, cond_false] at h
          cases h3 : memT d (looksL ops a) with
          | false => rw [h3, cond_false] at h; exact ⟨h, fun _ => ⟨rfl, fun e => by cases e⟩⟩
          | true =>
            rw [h3, cond_true] at h
            cases h4 : Nat.testBit (maskE a) i with
            | false => rw [h4] at h; cases h
            | true => rw [h4, cond_true] at h; exact ⟨h, fun _ => ⟨rfl, fun _ => rfl⟩⟩
    cases j with
    | zero => simp at ho; subst ho; exact hrest.2 hne
    | succ j => exact othersOk_spec hrest.1 j o (by simpa using ho) (by omega)
def kindQ : Op → Bool
  | .move _ => true | .assign _ => true | .pick .. => true | .build .. => true | .nilCheck _ => true | .binOp .. => true | .unOp .. => true | .convert .. => true | .makeFunc .. => true
  | .slice .. => true | .fieldAddr .. => true | .indexAddr .. => true | .field .. => true | .index .. => true | .extract .. => true | .load .. => true | .lookup .. => true
  | .alloc _ => true | .box .. => true | .buildSlice .. => true | .makeMap _ none => true | .makeSlice .. => true
  | .call c => (match c.callee with | .builtin .len => true | .builtin .min => true | .builtin .max => true | .builtin .cap => true | _ => false)
  | _ => false
noncomputable def qok (ops : List Oper) (i : Nat) : Bool := match nth ops i with
  | some o => bif kindQ o.op then (match o.dst with
    | some d => bif memT d (looksL ops o) then false else othersOk ops i d ops 0
    | none => true) else false
  | none => false
theorem qok_spec {ops : Array Oper} {i : Nat} (h : qok ops.toList i = true) : QOk ops i := by
  unfold qok at h
  rw [nth_eq, Array.getElem?_toList] at h
  split at h
  · rename_i o ho
    cases hk : kindQ o.op with
    | false => rw [hk] at h; cases h
    | true =>
      rw [hk, cond_true] at h
      refine ⟨o, ho, ?_, fun d hd => ?_⟩
      · intro cs b e; rw [e] at hk; cases hk
      rw [hd] at h
      simp only at h
      cases hm : memT d (looksL ops.toList o) with
      | true => rw [hm] at h; cases h
      | false =>
        rw [hm, cond_false] at h
        refine ⟨fun hl => ?_, fun j oj hoj hne => ?_⟩
        · have := (memT_iff d _).2 (looksL_mem hl)
          rw [hm] at this; cases this
        · obtain ⟨h1, h2⟩ := othersOk_spec h j oj (by rw [Array.getElem?_toList]; exact hoj) (by omega)
          refine ⟨fun e => ?_, fun hl => ?_⟩
          · unfold dstIs at h1
            rw [e] at h1
            simp at h1
          · exact (maskE_bit oj i).1 (h2 ((memT_iff d _).2 (looksL_mem hl)))
  · cases h
inductive Sc where
  | done
  | q (i : Nat) (s : Sc)
  | l (i : Nat) (s : Sc)
  | alt (i : Nat) (s r : Sc)
  | bad
noncomputable def findQ (ops : List Oper) (l : List Nat) : Option Nat := List.rec none (fun i _ ih => bif qok ops i then some i else ih) l
end Go.Ev
namespace Go.Ev
open Go.RowKit
noncomputable def avEq : Nat → AV → AV → Bool
  | 0, _, _ => false
  | n + 1, x, y => match x, y with
    | .b a, .b c => (match a, c with | true, true => true | false, false => true | _, _ => false)
    | .i j a, .i k c => bif kEq j k then iEq a c else false
    | .s a, .s c => sEq a c
    | .p0, .p0 => true
    | .p b o, .p b' o' => bif Ps.beq b b' then Nat.beq o o' else false
    | .gp g o, .gp g' o' => bif Nat.beq g g' then Nat.beq o o' else false
    | .l0, .l0 => true
    | .l b o m c, .l b' o' m' c' => bif Ps.beq b b' then (bif Nat.beq o o' then (bif Nat.beq m m' then Nat.beq c c' else false) else false) else false
    | .le b o m, .le b' o' m' => bif Ps.beq b b' then (bif Nat.beq o o' then Nat.beq m m' else false) else false
    | .lx b o m c, .lx b' o' m' c' => bif Ps.beq b b' then (bif Nat.beq o o' then (bif Nat.beq m m' then Nat.beq c c' else false) else false) else false
    | .y b, .y b' => Ps.beq b b'
    | .m0, .m0 => true
    | .m b, .m b' => Ps.beq b b'
    | .nf, .nf => true
    | .ni, .ni => true
    | .f g a, .f g' c => bif Nat.beq g g' then (List.rec (fun m => List.rec true (fun _ _ _ => false) m) (fun x _ ih m => List.rec false (fun y m _ => bif avEq n x y then ih m else false) m) a : List AV → Bool) c else false
    | .fm g a, .fm g' c => bif Nat.beq g g' then avEq n a c else false
    | .a a, .a c => (List.rec (fun m => List.rec true (fun _ _ _ => false) m) (fun x _ ih m => List.rec false (fun y m _ => bif avEq n x y then ih m else false) m) a : List AV → Bool) c
    | .t a, .t c => (List.rec (fun m => List.rec true (fun _ _ _ => false) m) (fun x _ ih m => List.rec false (fun y m _ => bif avEq n x y then ih m else false) m) a : List AV → Bool) c
    | _, _ => false
noncomputable def eqL {α : Type} (f : α → α → Bool) (a : List α) : List α → Bool := List.rec (fun m => List.rec true (fun _ _ _ => false) m) (fun x _ ih m => List.rec false (fun y m _ => bif f x y then ih m else false) m) a
theorem eqL_eq {α : Type} {f : α → α → Bool} (hf : ∀ x y, f x y = true → x = y) : ∀ a c : List α, eqL f a c = true → a = c
  | [], [], _ => rfl
  | [], _ :: _, h => by cases h
  | _ :: _, [], h => by cases h
  | x :: a, y :: c, h => by
    have h' : (bif f x y then eqL f a c else false) = true := h
    cases hs : f x y with
    | false => rw [hs] at h'; cases h'
    | true => rw [hs, cond_true] at h'; rw [hf x y hs, eqL_eq hf a c h']
theorem avEq_eq : ∀ (n : Nat) (x y : AV), avEq n x y = true → x = y
  | 0, _, _, h => by cases h
  | n + 1, x, y, h => by
    have ih := avEq_eq n
    have two : ∀ {a b : Bool}, (bif a then b else false) = true → a = true ∧ b = true := by intro a b h; cases a <;> simp_all
    unfold avEq at h
    split at h
    · split at h <;> first | rfl | (cases h)
    · obtain ⟨h1, h2⟩ := two h
      rw [iEq_eq] at h2
      have h3 := eq_of_beq h2
      rw [kEq_eq h1, h3]
    · rw [sEq_eq] at h
      have h3 := eq_of_beq h
      rw [h3]
    · rfl
    · obtain ⟨h1, h2⟩ := two h
      rw [(Ps.beq_iff _ _).1 h1, Nat.eq_of_beq_eq_true h2]
    · obtain ⟨h1, h2⟩ := two h
      rw [Nat.eq_of_beq_eq_true h1, Nat.eq_of_beq_eq_true h2]
    · rfl
    · obtain ⟨h1, h2⟩ := two h
      obtain ⟨h2, h3⟩ := two h2
      obtain ⟨h3, h4⟩ := two h3
      rw [(Ps.beq_iff _ _).1 h1, Nat.eq_of_beq_eq_true h2, Nat.eq_of_beq_eq_true h3, Nat.eq_of_beq_eq_true h4]
    · obtain ⟨h1, h2⟩ := two h
      obtain ⟨h2, h3⟩ := two h2
      rw [(Ps.beq_iff _ _).1 h1, Nat.eq_of_beq_eq_true h2, Nat.eq_of_beq_eq_true h3]
    · obtain ⟨h1, h2⟩ := two h
      obtain ⟨h2, h3⟩ := two h2
      obtain ⟨h3, h4⟩ := two h3
      rw [(Ps.beq_iff _ _).1 h1, Nat.eq_of_beq_eq_true h2, Nat.eq_of_beq_eq_true h3, Nat.eq_of_beq_eq_true h4]
    · rw [(Ps.beq_iff _ _).1 h]
    · rfl
    · rw [(Ps.beq_iff _ _).1 h]
    · rfl
    · rfl
    · obtain ⟨h1, h2⟩ := two h
      rw [Nat.eq_of_beq_eq_true h1, eqL_eq ih _ _ h2]
    · obtain ⟨h1, h2⟩ := two h
      rw [Nat.eq_of_beq_eq_true h1, ih _ _ h2]
    · rw [eqL_eq ih _ _ h]
    · rw [eqL_eq ih _ _ h]
    · cases h
noncomputable def guardOk (ops : List Oper) (fr : Fr) (o : Oper) : Bool :=
  match o.guard with
  | none => true
  | some (j, w) => (match nth ops j with
    | some oj => (match oj.dst with
      | some t => (match getF fr t with
        | .b b => b == w
        | _ => false)
      | none => false)
    | none => false)
theorem conc_bool {R : Rf} {v : AV} {b : Bool} (h : conc R v = some (.bool b)) : v = .b b := by
  cases v <;> simp only [conc, Option.map_eq_some_iff, Option.some.injEq] at h
  all_goals first
    | (cases h; rfl)
    | (cases h; done)
    | (obtain ⟨_, _, h⟩ := h; cases h)
theorem guardOk_eq {R : Rf} {fr : Fr} {a : Act} (hf : FrR R fr a) (ops : Array Oper) (o : Oper) : Region.wanted o (yielded ops a.tmps) = guardOk ops.toList fr o := by
  unfold Region.wanted guardOk
  cases o.guard with
  | none => rfl
  | some gw =>
    obtain ⟨j, w⟩ := gw
    simp only [nth_eq, Array.getElem?_toList, yielded]
    cases hj : ops[j]? with
    | none => rfl
    | some oj =>
      simp only [Option.bind_some]
      cases hd : oj.dst with
      | none => rfl
      | some t =>
        simp only [Option.bind_some]
        have hc := hf.at_ t
        rw [Array.getD_eq_getD_getElem?] at hc
        cases ht : a.tmps[t]? with
        | none =>
          rw [ht] at hc
          simp only [Option.getD_none] at hc
          cases hg : getF fr t <;> first | rfl | (rw [hg] at hc; simp only [conc, undef, Option.some.injEq] at hc; cases hc)
        | some x =>
          rw [ht] at hc
          simp only [Option.getD_some] at hc
          cases x
          case bool b =>
            rw [conc_bool hc]
            cases b <;> cases w <;> rfl
          all_goals
            cases hg : getF fr t <;> first | rfl | (rw [hg] at hc; simp only [conc, Option.some.injEq] at hc; cases hc)
noncomputable def argF (vs : List AV) : Nat → Fr → Fr := List.rec (fun _ fr => fr) (fun v _ ih n fr => ih (n + 1) (setF fr n v)) vs
theorem argF_get : ∀ (vs : List AV) (n : Nat) (fr : Fr) (t : Nat), getF (argF vs n fr) t = if n ≤ t ∧ t < n + vs.length then vs.getD (t - n) und else getF fr t
  | [], n, fr, t => by
    rw [if_neg (by rintro ⟨_, h⟩; simp at h; omega)]; rfl
  | v :: vs, n, fr, t => by
    show getF (argF vs (n + 1) (setF fr n v)) t = _
    rw [argF_get vs (n + 1)]
    by_cases h : t = n
    · subst h
      rw [if_neg (by omega), if_pos (by simp), getF_set]
      simp
    · by_cases h2 : n + 1 ≤ t ∧ t < n + 1 + vs.length
      · rw [if_pos h2, if_pos (by simp; omega)]
        rw [show t - n = (t - (n + 1)) + 1 by omega]; rfl
      · rw [if_neg h2, if_neg (by simp; omega), getF_set_ne _ _ (fun e => h e.symm)]
def frU : Fr := fun _ => und
theorem getF_lf (t : Nat) : getF frU t = und := rfl
theorem FrR.args {R : Rf} {vs : List AV} {xs : List Value} (h : concL R vs = some xs) (n : Nat) : FrR R (argF vs 0 frU) { tmps := xs.toArray ++ Array.replicate n undef, defers := [] } := by
  refine ⟨fun t => ?_⟩
  have hl := concL_len h
  rw [argF_get, Array.getD_eq_getD_getElem?]
  by_cases ht : t < vs.length
  · rw [if_pos (by omega), Array.getElem?_append_left (by simpa [hl] using ht)]
    simp only [Nat.sub_zero, List.getD, List.getElem?_eq_getElem ht, Option.getD_some]
    obtain ⟨x, h1, h2⟩ := concL_get h (List.getElem?_eq_getElem ht)
    simp [h1, h2]
  · rw [if_neg (by omega), getF_lf, Array.getElem?_append_right (by simp; omega)]
    have : ((Array.replicate n undef)[t - xs.toArray.size]?).getD undef = undef := by
      rw [Array.getElem?_replicate]; split <;> rfl
    rw [this]; rfl
noncomputable def resV (P : Program) (fr : Fr) (h : PT AO) : ResultVar → Option AV
  | .tmp t => some (getF fr t)
  | .cell a t => (match getF fr a, P.underlying t with
    | .p b o, some _ => bif isAg P t then (match P.info? t with
        | some i => (match ldN h b o i.size with
          | some l => some (.a l)
          | none => none)
        | none => none) else ld1 h b o
    | _, _ => none)
noncomputable def resL (P : Program) (fr : Fr) (h : PT AO) : List ResultVar → Option (List AV)
  | [] => some []
  | r :: l => (match resV P fr h r, resL P fr h l with
    | some v, some vs => some (v :: vs)
    | _, _ => none)
noncomputable def resF (P : Program) (fr : Fr) (h : PT AO) (l : List ResultVar) : Option AV :=
  match resL P fr h l with
  | some [v] => some v
  | some vs => some (.t vs)
  | none => none
def resOne (a : Act) : ResultVar → Sem Value
  | .tmp t => pure (a.tmps.getD t undef)
  | .cell b t => do loadVar t (← asAddr (a.tmps.getD b undef))
section
variable {P : Program} {B : Nat → Prop} {W : World} {D : Dn} {R : Rf} {h : PT AO} {w : World}
theorem resV_run (r : Rel P B W D R h w) {fr : Fr} {a : Act} (hf : FrR R fr a) {x : ResultVar} {v : AV} (hv : resV P fr h x = some v) :
    ∃ X, conc R v = some X ∧ (resOne a x).run P w = .ok X w := by
  cases x with
  | tmp t =>
    simp only [resV, Option.some.injEq] at hv; subst hv
    exact ⟨_, hf.at_ t, rfl⟩
  | cell b t =>
    simp only [resV] at hv
    split at hv
    · rename_i p o d hp hd
      have h1 := hf.at_ b
      rw [hp] at h1
      obtain ⟨k, e, hk, he⟩ := conc_p h1
      cases hb : isAg P t with
      | true =>
        rw [hb, cond_true] at hv
        split at hv
        · rename_i i hi
          split at hv
          · rename_i l hl2
            simp only [Option.some.injEq] at hv; subst hv
            obtain ⟨k', x', ys, h2, h3, h4, h5⟩ := ldN_run r hl2 hk
            rw [hk] at h2
            simp only [Option.some.injEq, Prod.mk.injEq] at h2
            obtain ⟨rfl, rfl⟩ := h2
            refine ⟨.agg ys.toArray, by rw [conc, h3]; rfl, ?_⟩
            have hlc := loadCells_at (P := P) h5
            rw [h4] at hlc
            simp only [resOne, he, asAddr, Sem.run_bind, Sem.run_pure, Result.andThen_ok, loadVar, run_isAg hd, hb, if_true, run_sizeOf hi, hlc]
          · cases hv
        · cases hv
      | false =>
        rw [hb, cond_false] at hv
        obtain ⟨k', x', y, h2, h3, h4⟩ := ld1_run r hv hk
        rw [hk] at h2
        simp only [Option.some.injEq, Prod.mk.injEq] at h2
        obtain ⟨rfl, rfl⟩ := h2
        refine ⟨y, h3, ?_⟩
        simp only [resOne, he, asAddr, Sem.run_bind, Sem.run_pure, Result.andThen_ok, loadVar, run_isAg hd, hb, Bool.false_eq_true, if_false, run_load, h4]
    · cases hv
theorem resL_run (r : Rel P B W D R h w) {fr : Fr} {a : Act} (hf : FrR R fr a) : ∀ {l : List ResultVar} {vs : List AV}, resL P fr h l = some vs →
    ∃ xs, concL R vs = some xs ∧ (l.mapM (resOne a) : Sem _).run P w = .ok xs w
  | [], vs, hv => by simp only [resL, Option.some.injEq] at hv; subst hv; exact ⟨[], rfl, rfl⟩
  | x :: l, vs, hv => by
    simp only [resL] at hv
    split at hv
    · rename_i v us h1 h2
      simp only [Option.some.injEq] at hv; subst hv
      obtain ⟨X, a1, a2⟩ := resV_run r hf h1
      obtain ⟨xs, b1, b2⟩ := resL_run r hf h2
      refine ⟨X :: xs, concL_cons.2 ⟨X, xs, a1, b1, rfl⟩, ?_⟩
      rw [List.mapM_cons, Sem.run_bind]
      rw [a2]
      simp only [Result.andThen_ok, Sem.run_bind]
      rw [b2]; rfl
    · cases hv
theorem resF_run (r : Rel P B W D R h w) {fr : Fr} {a : Act} (hf : FrR R fr a) {fn : Func} {v : AV} (hv : resF P fr h fn.results.toList = some v) :
    ∃ X, conc R v = some X ∧ (results fn a.tmps).run P w = .ok X w := by
  unfold resF at hv
  have key : ∀ xs : List Value, (fn.results.toList.mapM (resOne a) : Sem _).run P w = .ok xs w →
      (results fn a.tmps).run P w = .ok (if h : xs.toArray.size = 1 then xs.toArray[0] else .tuple xs.toArray) w := by
    intro xs hx
    have e : results fn a.tmps = (do let vs ← fn.results.mapM (resOne a); pure (if h : vs.size = 1 then vs[0] else .tuple vs)) := by
      unfold results
      congr 1
    rw [e, Sem.run_bind, Array.mapM_eq_mapM_toList, Sem.run_map, hx]
    rfl
  split at hv
  · rename_i u hu
    simp only [Option.some.injEq] at hv; subst hv
    obtain ⟨xs, h1, h2⟩ := resL_run r hf hu
    obtain ⟨X, ys, hX, hys, rfl⟩ := concL_cons.1 h1
    simp only [concL, Option.some.injEq] at hys; subst hys
    refine ⟨X, hX, ?_⟩
    rw [key _ h2]; rfl
  · rename_i vs hne hu
    simp only [Option.some.injEq] at hv; subst hv
    obtain ⟨xs, h1, h2⟩ := resL_run r hf hu
    refine ⟨.tuple xs.toArray, by rw [conc, h1]; rfl, ?_⟩
    rw [key _ h2, dif_neg]
    intro e
    have hl := concL_len h1
    have : vs.length = 1 := by rw [← hl]; simpa using e
    match vs, this with
    | [u], _ => exact hne u rfl
  · cases hv
end
end Go.Ev
namespace Go.Ev
open Go.RowKit
def Came (P : Program) (B : Nat → Prop) (W : World) (D : Dn) (R : Rf) (w : World) (rs : List (AV × S)) (X : Value) (w' : World) : Prop :=
  ∃ v s' R', (v, s') ∈ rs ∧ R.le R' ∧ conc R' v = some X ∧ Rel P B W D R' s'.h w' ∧ Kept B w w'
noncomputable def notIn (n : Nat) (l : List Nat) : Bool := List.rec true (fun x _ ih => bif Nat.beq x n then false else ih) l
theorem notIn_iff (n : Nat) : ∀ l, notIn n l = true ↔ n ∉ l
  | [] => by simp [notIn]
  | x :: l => by
    have ih := notIn_iff n l
    show (bif Nat.beq x n then false else notIn n l) = true ↔ _
    rw [beq_dec]
    by_cases h : x = n
    · simp [h]
    · have h' : ¬ n = x := fun e => h e.symm
      simp [h, h', ih]
noncomputable def leftE (seen : List Nat) (es : List (AV × AV × Nat)) : List (AV × AV × Nat) := List.rec [] (fun e _ ih => bif notIn e.2.2 seen then e :: ih else ih) es
noncomputable def bornOk (since last : Nat) (es : List (AV × AV × Nat)) : Bool := List.rec true (fun e _ ih => bif Nat.ble (e.2.2 + 1) since then (bif Nat.ble (e.2.2 + 1) last then ih else false) else false) es
noncomputable def nextR (b m : Ps) (n cl : Nat) (seen : List Nat) (s : S) (l : List (AV × AV × Nat)) : List (AV × S) := List.rec [] (fun e _ ih => (.t [.b true, e.1, e.2.1], ⟨s.h.set (some (.iter m n (e.2.2 :: seen) cl)) b, s.n⟩) :: ih) l
noncomputable def evNext (b : Ps) (s : S) : Option (List (AV × S)) :=
  match s.h.get b with
  | some (.iter m n seen last) => (match s.h.get m with
    | some (.map es cl) => bif bornOk n last es then (match leftE seen es with
        | [] => some [(.t [.b false], ⟨s.h.set (some .dead) b, s.n⟩)]
        | e :: l => some (nextR b m n cl seen s (e :: l))) else none
    | _ => none)
  | some .iter0 => some [(.t [.b false], s)]
  | _ => none
section
variable {P : Program} {B : Nat → Prop} {W : World} {D : Dn} {R : Rf} {s : S} {w : World}
theorem leftE_conc (seen : List Nat) : ∀ {es : List (AV × AV × Nat)} {ys : List MapEntry}, entC R es = some ys → entC R (leftE seen es) = some (ys.filter fun e => !(seen.reverse.toArray).contains e.born)
  | [], ys, h => by simp only [entC, Option.some.injEq] at h; subst h; rfl
  | (k, v, n) :: es, ys, h => by
    obtain ⟨x, y, zs, h1, h2, h3, rfl⟩ := entC_cons.1 h
    have ih := leftE_conc seen h3
    have hd : leftE seen ((k, v, n) :: es) = bif notIn n seen then (k, v, n) :: leftE seen es else leftE seen es := rfl
    rw [hd]
    cases hb : notIn n seen with
    | true =>
      have hn := (notIn_iff n seen).1 hb
      rw [cond_true, List.filter_cons_of_pos (by simpa using hn)]
      exact entC_cons.2 ⟨x, y, _, h1, h2, ih, rfl⟩
    | false =>
      have hn : n ∈ seen := by
        refine Classical.byContradiction fun h => ?_
        rw [(notIn_iff n seen).2 h] at hb; cases hb
      rw [cond_false, List.filter_cons_of_neg (by simpa using hn)]
      exact ih
theorem bornOk_conc {since last : Nat} : ∀ {es : List (AV × AV × Nat)} {ys : List MapEntry}, bornOk since last es = true → entC R es = some ys → ∀ e ∈ ys, e.born < since ∧ e.born < last
  | [], ys, _, h, e, he => by simp only [entC, Option.some.injEq] at h; subst h; cases he
  | (k, v, n) :: es, ys, hb, h, e, he => by
    obtain ⟨x, y, zs, h1, h2, h3, rfl⟩ := entC_cons.1 h
    have hd : (bif Nat.ble (n + 1) since then (bif Nat.ble (n + 1) last then bornOk since last es else false) else false) = true := hb
    cases h4 : Nat.ble (n + 1) since with
    | false => rw [h4] at hd; cases hd
    | true =>
      cases h5 : Nat.ble (n + 1) last with
      | false => rw [h4, h5] at hd; cases hd
      | true =>
        rw [h4, h5, cond_true, cond_true] at hd
        rcases List.mem_cons.1 he with rfl | he
        · exact ⟨ble_le h4, ble_le h5⟩
        · exact bornOk_conc hd h3 e he
theorem nextR_mem {b m : Ps} {n cl : Nat} {seen : List Nat} {e : AV × AV × Nat} : ∀ {l : List (AV × AV × Nat)}, e ∈ l → (AV.t [.b true, e.1, e.2.1], (⟨s.h.set (some (.iter m n (e.2.2 :: seen) cl)) b, s.n⟩ : S)) ∈ nextR b m n cl seen s l
  | a :: l, h => by
    rcases List.mem_cons.1 h with rfl | h
    · exact List.mem_cons_self
    · exact List.mem_cons_of_mem _ (nextR_mem h)
theorem entC_mem : ∀ {l : List (AV × AV × Nat)} {es : List MapEntry} {i : Nat} {e : MapEntry}, entC R l = some es → es[i]? = some e → ∃ k v, (k, v, e.born) ∈ l ∧ conc R k = some e.key ∧ conc R v = some e.val
  | [], es, i, e, h, he => by simp only [entC, Option.some.injEq] at h; subst h; simp at he
  | (k, v, n) :: l, es, i, e, h, he => by
    obtain ⟨x, y, zs, h1, h2, h3, rfl⟩ := entC_cons.1 h
    cases i with
    | zero => simp at he; subst he; exact ⟨k, v, List.mem_cons_self, h1, h2⟩
    | succ i =>
      obtain ⟨k', v', a1, a2⟩ := entC_mem h3 (by simpa using he)
      exact ⟨k', v', List.mem_cons_of_mem _ a1, a2⟩
theorem evNext_run (r : Rel P B W D R s.h w) {b : Ps} {rs : List (AV × S)} {ty : TypeId} {X : Value} (hX : conc R (.p b 0) = some X) (h : evNext b s = some rs) :
    ∃ z w', (Instr.next X false ty).run P w = .ok z w' ∧ Came P B W D R w rs z w' := by
  obtain ⟨k, e, hk, rfl⟩ := conc_p hX
  unfold evNext at h
  split at h
  · rename_i m n seen last hb
    obtain ⟨y, hm, hheap⟩ := r.obj b _ k e hb hk
    have hlo := r.lo b k e hk
    have hk2 := hk
    have hgi : (getObj k).run P w = .ok (.mapIter (some y.1) n seen.reverse.toArray last) w := by simp [getObj, Sem.run, hheap]
    split at h
    · rename_i es cl hmm
      obtain ⟨km, xm, ys, hkm, hys, hmheap⟩ := map_at r hmm hm
      rw [hm] at hkm
      simp only [Option.some.injEq] at hkm
      have hkm1 : y.1 = km := by rw [hkm]
      have hgm : (getObj y.1).run P w = .ok (.map ys.toArray cl) w := by rw [hkm1]; exact run_getMap hmheap
      cases hbo : bornOk n last es with
      | false => rw [hbo] at h; cases h
      | true =>
        rw [hbo, cond_true] at h
        have hborn := bornOk_conc hbo hys
        have hleft := leftE_conc (R := R) seen hys
        have hgate : (!seen.reverse.toArray.isEmpty && !ys.toArray.isEmpty && ys.toArray.all (fun e => decide (e.born ≥ last))) = false := by
          cases ys with
          | nil => simp
          | cons y0 ys =>
            have := (hborn y0 List.mem_cons_self).2
            have h1 : ((y0 :: ys).toArray.all (fun e => decide (e.born ≥ last))) = false := by
              simp only [List.all_toArray, List.all_cons]
              rw [decide_eq_false (by omega)]; rfl
            rw [h1, Bool.and_false]
        have hfil : (ys.toArray.filter fun e => !seen.reverse.toArray.contains e.born) = (ys.filter fun e => !(seen.reverse.toArray).contains e.born).toArray := by simp
        have hold : (((ys.filter fun e => !(seen.reverse.toArray).contains e.born).toArray).filter fun e => decide (e.born < n)) = (ys.filter fun e => !(seen.reverse.toArray).contains e.born).toArray := by
          apply Array.ext'
          simp only [List.filter_toArray]
          refine List.filter_eq_self.2 fun e he => ?_
          have := (hborn e (List.mem_filter.1 he).1).1
          simpa using this
        have hnew : (((ys.filter fun e => !(seen.reverse.toArray).contains e.born).toArray).filter fun e => decide (e.born ≥ n)) = #[] := by
          apply Array.ext'
          simp only [List.filter_toArray]
          refine List.filter_eq_nil_iff.2 fun e he => ?_
          have := (hborn e (List.mem_filter.1 he).1).1
          simp; omega
        generalize hL : (ys.filter fun e => !(seen.reverse.toArray).contains e.born) = L at hleft hfil hold hnew
        split at h
        · rename_i hl
          simp only [Option.some.injEq] at h; subst h
          rw [hl] at hleft
          simp only [entC, Option.some.injEq] at hleft
          subst hleft
          refine ⟨.tuple #[.bool false], w, ?_, .t [.b false], _, R, List.mem_cons_self, R.le_refl, rfl, r.write hb rfl hk2 (Kept.refl B w) rfl trivial (fun j _ => rfl), Kept.refl B w⟩
          simp only [Instr.next, Sem.run_bind, hgi, Result.andThen_ok, hgm]
          rw [hgate]
          simp only [Bool.false_eq_true, if_false, hfil, hold, hnew]
          simp [Question.forced]
        · rename_i e0 l0 hl
          simp only [Option.some.injEq] at h; subst h
          rw [hl] at hleft
          have hLlen : L ≠ [] := by
            intro e; subst e
            have := entC_len hleft
            simp at this
          have hLe : L.toArray.isEmpty = false := by cases L with | nil => exact absurd rfl hLlen | cons a L => rfl
          obtain ⟨i, wd, hrun, hbl, hrel, hi⟩ : ∃ i wd, ((choose (.mapNext ((L.toArray ++ #[]).map some).size)).run P w = .ok i wd) ∧ Kept B w wd ∧ Rel P B W D R s.h wd ∧ i < L.length := by
            rw [run_choose]
            have hsz : ((L.toArray ++ #[]).map some).size = L.length := by simp
            have hpos : 0 < L.length := List.length_pos_iff.2 hLlen
            rw [hsz]
            split
            · exact ⟨0, w, rfl, Kept.refl B w, r, hpos⟩
            · exact ⟨_, _, rfl, (Kept.refl B w).drew, r.drew, Nat.mod_lt _ hpos⟩
          have hgd : wd.heap[k]? = w.heap[k]? := by
            have : ∀ q, (choose q).run P w = .ok i wd → wd.heap = w.heap := by
              intro q hq
              rw [run_choose] at hq
              split at hq <;> (simp only [Result.ok.injEq] at hq; rw [← hq.2])
            rw [this _ hrun]
          have hseto : (setObj k (.mapIter (some y.1) n (seen.reverse.toArray.push (L[i]).born) cl)).run P wd = .ok () (setO wd k (.mapIter (some y.1) n (seen.reverse.toArray.push (L[i]).born) cl)) := by simp [setObj, Sem.run, hgd, hheap, setO]
          obtain ⟨kk, vv, hmem, hck, hcv⟩ := entC_mem hleft (List.getElem?_eq_getElem hi)
          refine ⟨.tuple #[.bool true, L[i].key, L[i].val], setO wd k (.mapIter (some y.1) n (seen.reverse.toArray.push (L[i]).born) cl), ?_, _, _, R, nextR_mem hmem, R.le_refl, ?_, ?_, hbl.trans (setO_below _ hlo.1)⟩
          · simp only [Instr.next, Sem.run_bind, hgi, Result.andThen_ok, hgm]
            rw [hgate]
            simp only [Bool.false_eq_true, if_false, hfil, hold, hnew, hLe, Array.empty_append]
            rw [Sem.run_bind, hrun]
            have hgi2 : ((L.toArray ++ #[]).map some)[i]? = some (some L[i]) := by simp [hi]
            simp only [Result.andThen_ok, hgi2, Sem.run_bind, hseto, Sem.run_pure]
          · simp only [conc, concL, hck, hcv, Option.map_some]
          · have hlo2 := hrel.lo b k _ hk2
            refine hrel.write hb rfl hk2 (setO_below _ hlo2.1) (setO_size ..) ⟨y, hm, ?_⟩ (fun j hj => setO_ne wd _ hj)
            rw [setO_at hlo2.2]
            congr 2
            simp
    · cases h
  · rename_i hb
    simp only [Option.some.injEq] at h; subst h
    have hheap := r.obj b _ k e hb hk
    have hgi : (getObj k).run P w = .ok (.mapIter none 0 #[] 0) w := by
      have : w.heap[k]? = some (.mapIter none 0 #[] 0) := hheap
      simp [getObj, Sem.run, this]
    refine ⟨.tuple #[.bool false], w, ?_, .t [.b false], s, R, List.mem_cons_self, R.le_refl, rfl, r, Kept.refl B w⟩
    simp [Instr.next, hgi]
  · cases h
end
end Go.Ev
